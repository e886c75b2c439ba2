/- The program's Encode. -/
import Derived.Test.YtbegngilbngnoaaDoorZepD
import Derived.Test.YtbegngilbngnoaaDoorShelfB
namespace Go.Proofs.YtbegngilbngnoaaDoor.Ze
open Go.RowKit Go.Lib Rw Ls Od _root_.Go.Proofs.YtbegngilbngnoaaDoor.Nm

theorem enc_run (r : Nat) (t : List Nat) (ht : ∀ x ∈ t.head?, x ≠ 0) : encR 0 (List.replicate r 0 ++ t) = dg r ++ encR 0 t := by
  rw [enc_zeros t r 0, Nat.zero_add]
  cases t with
  | nil => rw [encR, encR, dg_zero]; simp
  | cons c t =>
    have hc : c ≠ 0 := ht c rfl
    rw [encR, encR, if_neg hc, if_neg hc, dg_zero]; simp
theorem drop_zeros : ∀ l : List UInt8, ∃ r, l = List.replicate r 0 ++ l.dropWhile (· == 0) ∧ ∀ x ∈ (l.dropWhile (· == 0)).head?, x ≠ 0
  | [] => ⟨0, by simp, by simp⟩
  | x :: l => by
    by_cases h : x = 0
    · obtain ⟨r, h1, h2⟩ := drop_zeros l
      subst h
      refine ⟨r + 1, ?_, by simpa using h2⟩
      rw [List.replicate_succ, List.cons_append, List.dropWhile_cons_of_pos (by simp), ← h1]
    · rw [List.dropWhile_cons_of_neg (by simpa using h)]
      exact ⟨0, by simp, by simpa using h⟩
theorem trim_eq (S : ByteArray) : ∃ (T : ByteArray) (r : Nat), (⟨(Lib.trimLeftB S.data.toList 0).toArray⟩ : ByteArray) = T ∧ bsN S = List.replicate r 0 ++ bsN T ∧ S.size = r + T.size ∧ (∀ x ∈ (bsN T).head?, x ≠ 0) ∧ (r = 0 → T = S) := by
  obtain ⟨r, h1, h2⟩ := drop_zeros S.data.toList
  have e0 : (⟨(Lib.trimLeftB S.data.toList 0).toArray⟩ : ByteArray).data.toList = S.data.toList.dropWhile (· == 0) := by simp [Lib.trimLeftB]
  generalize (⟨(Lib.trimLeftB S.data.toList 0).toArray⟩ : ByteArray) = T at e0
  rw [← e0] at h1 h2
  have h3 : bsN S = List.replicate r 0 ++ bsN T := by
    unfold bsN
    rw [h1]
    simp
  refine ⟨T, r, rfl, h3, ?_, fun x hx => ?_, fun hr => ?_⟩
  · rw [← bsN_length, h3]; simp [bsN_length]
  · unfold bsN at hx
    rw [List.head?_map] at hx
    obtain ⟨y, hy, rfl⟩ := Option.map_eq_some_iff.1 hx
    have := h2 y hy
    intro h0
    exact this (UInt8.toNat_inj.1 (by simpa using h0))
  · subst hr
    rw [← ofN_bsN T, ← ofN_bsN S, h3]; simp
theorem bsN_cutZ (s : ByteArray) (a b : Nat) : bsN (s.extract a b) = ((bsN s).drop a).take (b - a) := by
  simp [bsN, ByteArray.data_extract, List.extract, List.map_drop, List.map_take]
theorem bsN_uncons (S : ByteArray) (h : 0 < S.size) : bsN S = (S[0]'h).toNat :: bsN (S.extract 1 S.size) := by
  rw [bsN_cutZ]
  have h1 : 0 < (bsN S).length := by rw [bsN_length]; exact h
  have h2 := bsN_at S 0 h
  rw [← h2, List.take_of_length_le (by simp [bsN_length])]
  exact (List.drop_zero ..).symm.trans (List.drop_eq_getElem_cons h1)
def EpR (s : ByteArray) (n B : Nat) (w : World) (gk : Nat) (v0 v : Value) (wr : World) : Prop := ∃ (S : ByteArray) (out : List Nat), v0 = .string S ∧ S.size ≤ gk ∧ Hid (out ++ encR 0 (bsN S) = encR 0 (bsN s)) ∧ out.length + S.size ≤ n ∧ Hid (wr.ownsRow B 31 1 v out.length (nums out)) ∧ Hid (Below B w wr)
set_option maxHeartbeats 8000000 in
set_option maxRecDepth 100000 in
theorem pencode_any (s : ByteArray) (w : World) : Calls Tryd.prog 8 #[.string s] w (NE w (enL (bsN s)) (enE (bsN s))) := by
  obtain ⟨i0, hi0, hz0, hz1, hz2⟩ := info_parts info_u64
  obtain ⟨n, hn⟩ : ∃ n, n = s.size := ⟨_, rfl⟩
  have HL : Hid ((bsN s).length = n) := Lib.hid (by rw [bsN_length, hn])
  by_cases hbig : 65536 < n
  · have F : Hid (enL (bsN s) = [] ∧ enE (bsN s) = 1) := Lib.hid ⟨if_neg (by rw [HL.out]; omega), if_neg (by rw [HL.out]; omega)⟩
    have t1 : decide ((65536 : Int) < (s.size : Int)) = true := decide_eq_true (by omega)
    have t2 : decide (65536 < s.size) = true := decide_eq_true (by omega)
    rw [F.out.1, F.out.2]
    clear hbig hn HL
    go_enter Tryd.func8, Tryd.ntmps8
    go_wp2_with fail
    refine bodyPost_ret (v := .tuple #[.slice none 0 0, .int .i64 1]) (by simp [results, Tryd.results8, go_sem]) rfl ?_
    exact ne_mk rfl (Nat.le_refl _) (Rd.nil _ _) (Below.refl _ _)
  have F : Hid (enL (bsN s) = encR 0 (bsN s) ∧ enE (bsN s) = 0) := Lib.hid ⟨if_pos (by rw [HL.out]; omega), if_pos (by rw [HL.out]; omega)⟩
  have t1 : decide ((65536 : Int) < (s.size : Int)) = false := decide_eq_false (by omega)
  have t2 : decide (65536 < s.size) = false := decide_eq_false (by omega)
  rw [F.out.1, F.out.2]
  obtain ⟨B, hB⟩ : ∃ B, B = w.heap.size := ⟨_, rfl⟩
  have HBW := Lib.hid hB
  have HNS := Lib.hid hn
  have hn6 : n ≤ 65536 := by omega
  have HDG := Lib.hid (fun (r : Nat) (W : World) (h : r ≤ 65536) => pdg_any r W h)
  have HTR := Lib.hid (fun (S : ByteArray) (W : World) => Tryd.strings_TrimLeft_one S 0 (by decide) W)
  have HO0 : Hid ((w.alloc (.cells #[] 31)).ownsRow B 31 1 (.slice (some ⟨w.heap.size, 0, none⟩) 0 0) 0 []) := Lib.hid (World.ownsRow_lit (e := 31) (base := B) (size := 1) w #[] 0 (by rw [HBW.out]; exact Nat.le_refl _) (by decide) rfl)
  have HB0 : Hid (Below B w (w.alloc (.cells #[] 31))) := Lib.hid (by rw [HBW.out]; exact (Below.refl _ _).alloc (Nat.le_refl _) _)
  clear hB hbig hn F HL
  go_enter Tryd.func8, Tryd.ntmps8
  go_wp2_with fail
  go_loopg [0, 4] s.size (fun gk v0 v wr => EpR s n B w gk v0 v wr)
  case atStart => exact ⟨s, [], rfl, Nat.le_refl _, Lib.hid rfl, by rw [HNS.out]; simp, HO0, HB0⟩
  case round =>
    clear HO0 HB0
    obtain ⟨S, out, rfl, hgk, HE, hon, HO, HB⟩ := hrel
    have hwz : B ≤ wr.heap.size := by rw [HBW.out]; exact HB.out.size
    obtain ⟨ol, hole⟩ : ∃ ol, ol = out.length := ⟨_, rfl⟩
    have HOL := Lib.hid hole
    rw [← hole] at HO hon
    clear hole
    by_cases hS : 0 < S.size
    · have b1 : decide ((0 : Int) < (S.size : Int)) = true := decide_eq_true (by omega)
      have b2 : decide (0 < S.size) = true := decide_eq_true hS
      obtain ⟨T, r, eT, HS1, hs2, HT0, HT1⟩ := trim_eq S
      have C1 := Lib.hid (HTR.out S wr)
      rw [eT] at C1
      have HS2 := Lib.hid HS1; have HTH := Lib.hid HT0; have HTS := Lib.hid HT1
      have z1 : (S.size : Int) - (T.size : Int) = (r : Int) := by omega
      have z2 : IntKind.i64.wrap (r : Int) = (r : Int) := IntWalk.i64_in _ (by omega)
      clear eT HS1 HT0 HT1
      by_cases hr : 0 < r
      · have b3 : decide ((0 : Int) < (r : Int)) = true := decide_eq_true (by omega)
        have b4 : decide (0 < r) = true := decide_eq_true hr
        have z3 : IntKind.u64.wrap (r : Int) = (r : Int) := IntWalk.u64_in _ (by omega)
        have HD := Lib.hid (fun W => HDG.out r W (by omega))
        have hdl := dg_le r
        have HE2 : Hid (out ++ dg r ++ encR 0 (bsN T) = encR 0 (bsN s)) := Lib.hid (by rw [← HE.out, HS2.out, enc_run r _ HTH.out, List.append_assoc])
        obtain ⟨D, hD⟩ : ∃ D, D = dg r := ⟨_, rfl⟩
        obtain ⟨dl, hdl2⟩ : ∃ dl, dl = D.length := ⟨_, rfl⟩
        rw [← hD] at HD HE2 hdl
        rw [← hdl2] at hdl
        have HNL : Hid (nums (out ++ D) = nums out ++ nums D ∧ (out ++ D).length = ol + dl) := Lib.hid ⟨by simp [nums], by simp [hdl2, HOL.out]⟩
        have HDN : Hid ((nums D).length = dl * 1) := Lib.hid (by rw [nums_length, hdl2, Nat.mul_one])
        have HD1 : Hid (∀ W, Calls Tryd.prog 22 #[.int .u64 (r : Int)] W fun e w' => ∃ (q : Option Addr) (c : Nat), e = .returned (.slice q dl c) ∧ Rd w' q (nums D) ∧ Below W.heap.size W w') := Lib.hid (fun W => (HD.out W).mono fun e w' ⟨q, c, h1, h2, h3, h4, h5⟩ => ⟨q, c, by rw [h1, hdl2], h3, h5⟩)
        have hm1 : ol + dl ≤ maxLen := by unfold maxLen; omega
        have hm3 : (ol + dl) + T.size ≤ n ∧ T.size < S.size := by omega
        clear hr hD hdl2 HD hs2
        go_wp2_with fail
        refine C1.out.mono ?_
        rintro e9 w1 ⟨rfl, hw1⟩
        replace hw1 := hw1.symm
        subst hw1
        go_wp2_with fail
        refine (HD1.out _).mono ?_
        rintro e9 w1 ⟨q, c, rfl, hq1, hb1⟩
        have HQ1 := Lib.hid hq1
        have HO1 : Hid (w1.ownsRow B 31 1 u4 ol (nums out)) := Lib.hid (own_below HO.out hb1)
        have HB1 : Hid (Below B w w1) := Lib.hid (HB.out.trans (hb1.mono hwz))
        have hz1' : B ≤ w1.heap.size := by rw [HBW.out]; exact HB1.out.size
        clear hq1 hb1
        go_wp2_with (at_builtin; refine wpList_app rfl _ _ 22 rfl B 31 i0 (.int .u64 0) 1 8 Tryd.underlying22 hi0 hz0 hz1 hz2 rfl (by decide) u4 ol (nums out) rfl q dl c (nums D) rfl HDN.out (nums_one D) hm1 (by omega) HO1.out HQ1.out hz1' ?_)
        intro v2 w2 hown2 _ hb2 _
        have HO2 : Hid (w2.ownsRow B 31 1 v2 (out ++ D).length (nums (out ++ D))) := Lib.hid (by rw [HNL.out.1, HNL.out.2]; exact hown2)
        have HB2 : Hid (Below B w w2) := Lib.hid (HB1.out.trans hb2)
        clear hown2 hb2
        go_wp2_with fail
        go_roundg T.size
        case measure => omega
        case rel => exact ⟨T, out ++ D, rfl, Nat.le_refl _, HE2, by rw [HNL.out.2]; exact hm3.1, HO2, HB2⟩
      · obtain rfl : r = 0 := by omega
        obtain rfl : T = S := HTS.out rfl
        obtain ⟨x, hx⟩ : ∃ x, x = (T[0]'hS).toNat := ⟨_, rfl⟩
        have ex : ((T[0]'hS).toNat : Int) = (x : Int) := by rw [hx]
        have hxb : x < 256 := by rw [hx]; exact UInt8.toNat_lt _
        have HU := bsN_uncons T hS
        rw [← hx] at HU
        have hx0 : x ≠ 0 := HTH.out x (by rw [HU]; rfl)
        obtain ⟨V, hV⟩ : ∃ V, V = T.extract 1 T.size := ⟨_, rfl⟩
        have hVs : V.size = T.size - 1 := by rw [hV]; simp
        obtain ⟨x1, hx1⟩ : ∃ x1, x1 = x + 1 := ⟨_, rfl⟩
        have HE2 : Hid (out ++ [x1] ++ encR 0 (bsN V) = encR 0 (bsN s)) := Lib.hid (by rw [← HE.out, HU, encR, if_neg hx0, dg_zero, hV, hx1]; simp)
        have w1 : IntKind.u64.wrap ((x : Int)) = (x : Int) := IntWalk.u64_in _ (by omega)
        have w2 : (x : Int) + 1 = (x1 : Int) := by omega
        have w3 : IntKind.u64.wrap ((x1 : Int)) = (x1 : Int) := IntWalk.u64_in _ (by omega)
        have HNL : Hid (nums (out ++ [x1]) = nums out ++ [.int .u64 (x1 : Nat)] ∧ (out ++ [x1]).length = ol + 1) := Lib.hid ⟨by simp [nums], by simp [HOL.out]⟩
        have hon1 : (∀ u ∈ [Value.int .u64 (x1 : Nat)], u.oneCell' = true) := by intro u hu; rw [List.mem_singleton] at hu; rw [hu]; rfl
        have hm1 : ol + 1 ≤ maxLen := by unfold maxLen; omega
        have hm3 : (ol + 1) + V.size ≤ n ∧ V.size < T.size := by omega
        have h1s : 1 ≤ T.size := hS
        have HRA := Lib.hid (HO.out.alloc (.cells #[.int .u64 (x1 : Nat)] 31))
        have HVV := Lib.hid hV
        clear hx HU hx0 hx1 hs2 hV hVs
        go_wp2_with fail
        refine C1.out.mono ?_
        rintro e9 w1 ⟨rfl, hw1⟩
        replace hw1 := hw1.symm
        subst hw1
        go_wp2_with (at_builtin; refine wpList_app rfl _ _ 22 rfl B 31 i0 (.int .u64 0) 1 8 Tryd.underlying22 hi0 hz0 hz1 hz2 rfl (by decide) _ ol (nums out) rfl (some ⟨wr.heap.size, 0, none⟩) 1 1 [.int .u64 (x1 : Nat)] rfl rfl hon1 hm1 (by omega) HRA.out (Rd.new _ _ _) (by simp; omega) ?_)
        intro v2 w2 hown2 _ hb2 _
        have HO2 : Hid (w2.ownsRow B 31 1 v2 (out ++ [x1]).length (nums (out ++ [x1]))) := Lib.hid (by rw [HNL.out.1, HNL.out.2]; exact hown2)
        have HB2 : Hid (Below B w w2) := Lib.hid ((HB.out.alloc hwz _).trans hb2)
        clear hown2 hb2
        go_wp2_with fail
        go_roundg V.size
        case measure => omega
        case rel => exact ⟨V, out ++ [x1], by rw [HVV.out], Nat.le_refl _, HE2, by rw [HNL.out.2]; exact hm3.1, HO2, HB2⟩
    · have b1 : decide ((0 : Int) < (S.size : Int)) = false := decide_eq_false (by omega)
      have b2 : decide (0 < S.size) = false := decide_eq_false hS
      have hE0 : bsN S = [] := List.eq_nil_of_length_eq_zero (by rw [bsN_length]; omega)
      have HFIN : Hid (encR 0 (bsN s) = out ++ [257]) := Lib.hid (by rw [← HE.out, hE0, encR, dg_zero]; rfl)
      have HNL : Hid (nums (out ++ [257]) = nums out ++ [.int .u64 (257 : Int)] ∧ (out ++ [257]).length = ol + 1) := Lib.hid ⟨by simp [nums], by simp [HOL.out]⟩
      have hon1 : (∀ u ∈ [Value.int .u64 (257 : Int)], u.oneCell' = true) := by intro u hu; rw [List.mem_singleton] at hu; rw [hu]; rfl
      have hm1 : ol + 1 ≤ maxLen := by unfold maxLen; omega
      have HRA := Lib.hid (HO.out.alloc (.cells #[.int .u64 (257 : Int)] 31))
      clear hE0
      go_wp2_with (at_builtin; refine wpList_app rfl _ _ 22 rfl B 31 i0 (.int .u64 0) 1 8 Tryd.underlying22 hi0 hz0 hz1 hz2 rfl (by decide) _ ol (nums out) rfl (some ⟨wr.heap.size, 0, none⟩) 1 1 [.int .u64 (257 : Int)] rfl rfl hon1 hm1 (by omega) HRA.out (Rd.new _ _ _) (by simp; omega) ?_)
      intro v3 w3 hown3 _ hb3 _
      have hB3 : Below B w w3 := (HB.out.alloc hwz _).trans hb3
      rw [← HNL.out.1] at hown3
      obtain ⟨q5, c5, rfl, hc5, hr5, _⟩ := own_rdN hown3
      have F3 : Hid (NE w (encR 0 (bsN s)) 0 (.returned (.tuple #[.slice q5 (ol + 1) c5, .int .i64 0])) w3) := Lib.hid (by
        rw [HFIN.out]
        exact ne_mk HNL.out.2 hc5 hr5 (by rw [← HBW.out]; exact hB3))
      clear hown3 hb3 hB3 hr5
      go_wp2_with fail
      refine bodyPost_ret (v := .tuple #[.slice q5 (ol + 1) c5, .int .i64 0]) (by simp [results, Tryd.results8, go_sem]) rfl ?_
      exact F3.out
end Go.Proofs.YtbegngilbngnoaaDoor.Ze
