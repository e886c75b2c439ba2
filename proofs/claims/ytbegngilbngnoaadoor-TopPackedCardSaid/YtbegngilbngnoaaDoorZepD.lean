/- The program's Decode. -/
import Derived.Test.YtbegngilbngnoaaDoorZepP
namespace Go.Proofs.YtbegngilbngnoaaDoor.Ze
open Go.RowKit Go.Lib Rw Ls Od _root_.Go.Proofs.YtbegngilbngnoaaDoor.Nm

def DpR (l : List Nat) (n B : Nat) (w : World) (vo i : Value) (wr : World) : Prop := ∃ (k : Nat) (out : List Nat), k ≤ n ∧ i = .int .i64 k ∧ Hid (dec 65536 (l.drop k) k out [] = dcA l) ∧ out.length ≤ 65536 ∧ Hid (∀ x ∈ out, x < 256) ∧ Hid (wr.ownsRow B 5 1 vo out.length (u8s out)) ∧ Hid (Below B w wr)
set_option maxHeartbeats 8000000 in
set_option maxRecDepth 100000 in
theorem pdecode_any (l : List Nat) (p : Option Addr) (c : Nat) (w : World) (hp : Rd w p (nums l)) (hlc : l.length ≤ c) (hl : l.length ≤ 17592186044416) :
    Calls Tryd.prog 10 #[.slice p l.length c] w (DeP w (dcA l)) := by
  obtain ⟨i1, hi1, hy0, hy1, hy2⟩ := info_parts info_u8
  obtain ⟨B, hB⟩ : ∃ B, B = w.heap.size := ⟨_, rfl⟩
  obtain ⟨n, hn⟩ : ∃ n, n = l.length := ⟨_, rfl⟩
  rw [← hn] at hl hlc ⊢
  have HBW := Lib.hid hB; have HN := Lib.hid hn; have HP := Lib.hid hp
  clear hB hn hp
  go_enter Tryd.func10, Tryd.ntmps10
  go_wp2_with fail
  have HO0 : Hid ((w.alloc (.cells #[] 5)).ownsRow B 5 1 (.slice (some ⟨w.heap.size, 0, none⟩) 0 0) 0 []) := Lib.hid (World.ownsRow_lit (e := 5) (base := B) (size := 1) w #[] 0 (by rw [HBW.out]; exact Nat.le_refl _) (by decide) rfl)
  have HB0 : Hid (Below B w (w.alloc (.cells #[] 5))) := Lib.hid (by rw [HBW.out]; exact (Below.refl _ _).alloc (Nat.le_refl _) _)
  go_loopw [5, 6] (fun vo i wr => DpR l n B w vo i wr) (fun _ i _ => n - (intOf i).toNat)
  case atStart => exact ⟨0, [], Nat.zero_le _, rfl, Lib.hid rfl, Nat.zero_le _, Lib.hid (by simp), HO0, HB0⟩
  case round =>
    obtain ⟨k, out, hk, rfl, HE, hol, HB8, HO, HB⟩ := hrel
    have HPW : Hid (Rd wr p (nums l)) := Lib.hid (HP.out.below (by rw [← HBW.out]; exact HB.out))
    have hwz : B ≤ wr.heap.size := by rw [HBW.out]; exact HB.out.size
    have HF : Hid (Below w.heap.size w wr) := Lib.hid (by rw [← HBW.out]; exact HB.out)
    obtain ⟨ol, hole⟩ : ∃ ol, ol = out.length := ⟨_, rfl⟩
    have HOL := Lib.hid hole
    rw [← hole] at HO hol
    clear hole
    by_cases hlt : k < n
    · obtain ⟨a, rfl, cy⟩ := rd_num HPW.out k (by rw [← HN.out]; exact hlt)
      obtain ⟨x, hx⟩ : ∃ x, x = l.getD k 0 := ⟨_, rfl⟩
      rw [← hx] at cy
      have HX : Hid ((l.drop k).getD 0 0 = x) := Lib.hid (by rw [hx]; simp [List.getD_eq_getElem?_getD])
      have k0 : (0 : Int) ≤ (k : Int) := by omega
      have k1 : (k : Int) < (n : Int) := by omega
      clear hx
      by_cases h257 : x = 257
      · have e3 : ((x : Int) == 257) = true := by rw [beq_iff_eq]; omega
        have e4 : (x == 257) = true := by rw [beq_iff_eq]; exact h257
        have HFK : Hid (dcA l = (out, k + 1, 0)) := Lib.hid (by
          have h2 : k < l.length := by rw [← HN.out]; exact hlt
          have h3 := HX.out
          have h4 := HE.out
          rw [List.drop_eq_getElem_cons h2] at h3 h4
          rw [← h4]
          have h5 : l[k] = 257 := by rw [← h257, ← h3]; rfl
          rw [h5, dec, if_neg (by omega), if_neg (by simp [nm]), if_neg (by omega), if_pos rfl]
          simp [nm])
        have hcv := conv_own HO.out HB8.out
        obtain ⟨S, hS⟩ : ∃ S, S = ofN out := ⟨_, rfl⟩
        rw [← hS] at hcv
        have HS := Lib.hid hS
        obtain ⟨k1', hk1⟩ : ∃ k1', k1' = k + 1 := ⟨_, rfl⟩
        have u1 : (k : Int) + 1 = (k1' : Int) := by omega
        have u2 : IntKind.i64.wrap ((k1' : Int)) = (k1' : Int) := IntWalk.i64_in _ (by omega)
        rw [← hk1] at HFK
        clear hS h257 hk1
        go_wp2_with fail
        refine bodyPost_ret (v := .tuple #[.string S, .int .i64 (k1' : Nat), .int .i64 0]) (by simp [results, Tryd.results10, go_sem]) rfl ?_
        exact dep_mk (t := out) (n := k1') (e := 0) HFK.out HS.out HF.out
      · have e3 : ((x : Int) == 257) = false := by rw [beq_eq_false_iff_ne]; omega
        have e4 : (x == 257) = false := by rw [beq_eq_false_iff_ne]; exact h257
        have hdl : (l.drop k).length = n - k := by rw [List.length_drop, ← HN.out]
        have HRd : Hid (Rd wr (some (a.add k)) (nums (l.drop k))) := Lib.hid (fun i hi => by
          have hi2 : i < n - k := by rw [nums_length, hdl] at hi; exact hi
          obtain ⟨a', ea, hb, hc⟩ := HPW.out (k + i) (by rw [nums_length, ← HN.out]; omega)
          cases ea
          refine ⟨_, rfl, by rw [add_block]; exact hb, ?_⟩
          rw [Go.Deep.add_add, hc]
          simp [nums, List.getD_eq_getElem?_getD, List.map_drop, List.getElem?_drop])
        have PO := pt_ok (l.drop k) (by rw [hdl]; omega) (by rw [HX.out]; exact h257)
        have HDP := Lib.hid (dec_part (l.drop k) k out (by rw [← HOL.out]; exact hol) (by rw [hdl]; omega) (by rw [HX.out]; exact h257))
        have CP := Lib.hid (part_any (l.drop k) (some (a.add k)) (n - k) (c - k) wr hdl.symm (by omega) (by omega) HRd.out (by omega) (by rw [HX.out]; exact h257))
        rw [hdl] at PO
        obtain ⟨b, m, rd, e, hpt⟩ : ∃ b m rd e : Nat, pt (l.drop k) = (b, m, rd, e) := ⟨_, _, _, _, rfl⟩
        rw [hpt] at PO HDP CP
        simp only at PO HDP CP
        obtain ⟨p1, p2, p3, p4, p5⟩ := PO
        have HP4 := Lib.hid p4
        clear p4 hpt HX h257 hdl HRd
        obtain ⟨q5, c5, rfl, hc5, _, _⟩ := own_rdN HO.out
        go_wp2_with fail
        refine CP.out.mono ?_
        rintro e9 w2 ⟨rfl, hb2⟩
        have HO2 := Lib.hid (own_below HO.out hb2)
        have HB2 := Lib.hid (HB.out.trans (hb2.mono hwz))
        have HF2 : Hid (Below w.heap.size w w2) := Lib.hid (by rw [← HBW.out]; exact HB2.out)
        have hwz2 : B ≤ w2.heap.size := by rw [HBW.out]; exact HB2.out.size
        clear hb2 CP HO HB HPW HF hwz cy
        by_cases he : e = 0
        · obtain ⟨m1, rd1⟩ := HP4.out he
          subst he
          have HD2 := HDP.out
          rw [if_neg (by simp : ¬ (0 : Nat) ≠ 0)] at HD2
          obtain ⟨s, hs⟩ : ∃ s, s = ol + m := ⟨_, rfl⟩
          have s1 : (ol : Int) + (m : Int) = (s : Int) := by omega
          have s2 : IntKind.i64.wrap (s : Int) = (s : Int) := IntWalk.i64_in _ (by omega)
          rw [← HOL.out, ← hs] at HD2
          by_cases hbig : 65536 < s
          · have d1 : decide ((65536 : Int) < (s : Int)) = true := decide_eq_true (by omega)
            have d2 : decide (65536 < s) = true := decide_eq_true hbig
            have HFK : Hid (dcA l = ([], 0, 8)) := Lib.hid (by rw [← HE.out, HD2, if_pos hbig])
            clear hs hbig HD2 HDP
            go_wp2_with fail
            refine bodyPost_ret (v := .tuple #[.string ⟨#[]⟩, .int .i64 0, .int .i64 8]) (by simp [results, Tryd.results10, go_sem]) rfl ?_
            exact dep_mk (t := []) (n := 0) (e := 8) HFK.out rfl HF2.out
          · have d1 : decide ((65536 : Int) < (s : Int)) = false := decide_eq_false (by omega)
            have d2 : decide (65536 < s) = false := decide_eq_false hbig
            rw [if_neg hbig, List.drop_drop] at HD2
            have HE3 : Hid (dec 65536 (l.drop (k + rd)) (k + rd) (out ++ List.replicate m b) [] = dcA l) := Lib.hid (by rw [← HE.out, ← HD2])
            have HRP := Lib.hid (fun (W : World) (B9 : Nat) (h1 : B9 < W.heap.size) (h2 : W.cell? ⟨B9, 0, none⟩ = some (.int .u8 (b : Nat))) => repeat_any B9 1 m (b : Nat) W m1 p2 h1 h2)
            have hcz : (w2.alloc (.cells #[.int .u8 (b : Nat)] 5)).cell? ⟨w2.heap.size, 0, none⟩ = some (.int .u8 (b : Nat)) := by
              rw [cell_of_row _ _ 0 _ _ (0, 0) (heap_alloc_new w2 _)]; rfl
            have HRP2 := Lib.hid (HRP.out _ _ (by simp) hcz)
            have HS := Lib.hid hs
            have HS6 : Hid (s ≤ 65536) := Lib.hid (by omega)
            clear hs hbig HD2 HDP HRP hcz
            go_wp2_with fail
            refine HRP2.out.mono ?_
            rintro e9 w3 ⟨g3, rfl, r3, hg3, hb3⟩
            have hb3' : Below w2.heap.size w2 w3 := ((Below.refl _ w2).alloc (Nat.le_refl _) _).trans (hb3.mono (by simp))
            have HO3 := Lib.hid (own_below HO2.out hb3')
            have HB3 := Lib.hid (HB2.out.trans (hb3'.mono hwz2))
            have hwz3 : B ≤ w3.heap.size := by rw [HBW.out]; exact HB3.out.size
            have HR3 := Lib.hid r3
            have hon : ∀ u ∈ List.replicate m (Value.int .u8 (b : Nat)), u.oneCell' = true := by intro u hu; rw [(List.mem_replicate.1 hu).2]; rfl
            have hmx : ol + m ≤ maxLen := by unfold maxLen; rw [← HS.out]; have := HS6.out; omega
            have hmy : ol + m ≤ 65536 := by rw [← HS.out]; exact HS6.out
            clear r3 hb3 hb3' hg3 HRP2 HO2 HB2 HF2 hwz2
            go_wp2_with (at_builtin; refine wpList_app rfl _ _ 43 rfl B 5 i1 (.int .u8 0) 1 1 Tryd.underlying43 hi1 hy0 hy1 hy2 rfl (by decide) _ ol (u8s out) rfl (some ⟨g3, 0, none⟩) m m (List.replicate m (.int .u8 (b : Nat))) rfl (by simp) hon hmx (by omega) HO3.out HR3.out hwz3 ?_)
            intro v4 w4 hown4 hgr4 hb4 hat4
            have HO4 : Hid (w4.ownsRow B 5 1 v4 (out ++ List.replicate m b).length (u8s (out ++ List.replicate m b))) := Lib.hid (by
              rw [u8s_app, List.length_append, List.length_replicate, ← HOL.out, show u8s (List.replicate m b) = List.replicate m (.int .u8 (b : Nat)) by simp [u8s]]; exact hown4)
            have HB4 := Lib.hid (HB3.out.trans hb4)
            have HOL3 : Hid ((out ++ List.replicate m b).length ≤ 65536) := Lib.hid (by rw [List.length_append, List.length_replicate, ← HOL.out]; exact hmy)
            have HL3 : Hid (∀ z ∈ out ++ List.replicate m b, z < 256) := Lib.hid (fun z hz => by
              rcases List.mem_append.1 hz with hz | hz
              · exact HB8.out z hz
              · rw [List.eq_of_mem_replicate hz]; exact p1)
            obtain ⟨k2, hk2⟩ : ∃ k2, k2 = k + rd := ⟨_, rfl⟩
            have u1 : (k : Int) + (rd : Int) = (k2 : Int) := by omega
            have u2 : IntKind.i64.wrap ((k2 : Int)) = (k2 : Int) := IntWalk.i64_in _ (by omega)
            rw [← hk2] at HE3
            have hk3 : k2 ≤ n ∧ k < k2 := by omega
            clear hk2 hown4 hgr4 hb4 hat4 hon hmx hmy HO3 HR3 HB3
            go_wp2_with fail
            go_roundw
            case rel => exact ⟨k2, out ++ List.replicate m b, by omega, by go_num, HE3, HOL3.out, HL3, HO4, HB4⟩
            case measure => simp [intOf]; omega
        · have d1 : ((e : Int) == 0) = false := by rw [beq_eq_false_iff_ne]; omega
          have d2 : (e == 0) = false := by rw [beq_eq_false_iff_ne]; exact he
          have HFK : Hid (dcA l = ([], 0, e)) := Lib.hid (by rw [← HE.out, HDP.out, if_pos he])
          clear HDP HP4
          go_wp2_with fail
          refine bodyPost_ret (v := .tuple #[.string ⟨#[]⟩, .int .i64 0, .int .i64 (e : Nat)]) (by simp [results, Tryd.results10, go_sem]) rfl ?_
          exact dep_mk (t := []) (n := 0) (e := e) HFK.out rfl HF2.out
    · obtain rfl : k = n := by omega
      have k1 : ¬ (k : Int) < (k : Int) := by omega
      have HFK : Hid (dcA l = ([], 0, 5)) := Lib.hid (by
        have HE3 := HE.out
        rw [show l.drop k = [] from List.drop_eq_nil_of_le (by rw [← HN.out]; exact Nat.le_refl _), dec, if_neg (by simp [nm])] at HE3
        exact HE3.symm)
      go_wp2_with fail
      refine bodyPost_ret (v := .tuple #[.string ⟨#[]⟩, .int .i64 0, .int .i64 5]) (by simp [results, Tryd.results10, go_sem]) rfl ?_
      exact dep_mk (t := []) (n := 0) (e := 5) HFK.out rfl HF.out
end Go.Proofs.YtbegngilbngnoaaDoor.Ze
