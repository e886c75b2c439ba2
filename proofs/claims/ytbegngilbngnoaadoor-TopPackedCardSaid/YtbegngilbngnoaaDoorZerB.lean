/- The document's Encode. -/
import Derived.Test.YtbegngilbngnoaaDoorZerA
import Derived.Test.YtbegngilbngnoaaDoorApp
namespace Go.Proofs.YtbegngilbngnoaaDoor.Ze
open Go.RowKit Go.Lib Rw Ls Od _root_.Go.Proofs.YtbegngilbngnoaaDoor.Nm

theorem es_le_from : ∀ (s : List Nat) (x : List Nat × Nat), (s.foldl estep x).1.length + (s.foldl estep x).2 ≤ x.1.length + x.2 + s.length
  | [], x => by simp
  | c :: s, x => by
    rw [List.foldl_cons]
    have h := es_le_from s (estep x c)
    have h2 : (estep x c).1.length + (estep x c).2 ≤ x.1.length + x.2 + 1 := by
      unfold estep
      split
      · simp; omega
      · have := dg_le x.2; simp; omega
    rw [List.length_cons]; omega
theorem es_le (s : List Nat) : (es s).1.length + (es s).2 ≤ s.length := by simpa [es] using es_le_from s ([], 0)
theorem encL_of (s : List Nat) : encR 0 s = (es s).1 ++ dg (es s).2 ++ [257] := (es_enc s).symm
def enL (s : List Nat) : List Nat := if s.length ≤ 65536 then encR 0 s else []
def enE (s : List Nat) : Int := if s.length ≤ 65536 then 0 else 1
/-- symbols so far -/
def EnR (s : List Nat) (n B : Nat) (w : World) (v r i : Value) (wr : World) : Prop := ∃ k : Nat, k ≤ n ∧ i = .int .i64 k ∧ r = .int .u64 ((es (s.take k)).2 : Nat) ∧ wr.ownsRow B 31 1 v (es (s.take k)).1.length (nums (es (s.take k)).1) ∧ Below B w wr
set_option maxHeartbeats 8000000 in
set_option maxRecDepth 100000 in
theorem rencode_any (s : ByteArray) (w : World) : Calls Tryd.prog 9 #[.string s] w (NE w (enL (bsN s)) (enE (bsN s))) := by
  obtain ⟨i0, hi0, hz0, hz1, hz2⟩ := info_parts info_u64
  obtain ⟨n, hn⟩ : ∃ n, n = s.size := ⟨_, rfl⟩
  have HL : Hid ((bsN s).length = n) := Lib.hid (by rw [bsN_length, hn])
  by_cases hbig : 65536 < n
  · have F : Hid (enL (bsN s) = [] ∧ enE (bsN s) = 1) := Lib.hid ⟨if_neg (by rw [HL.out]; omega), if_neg (by rw [HL.out]; omega)⟩
    have t1 : decide ((65536 : Int) < (s.size : Int)) = true := decide_eq_true (by omega)
    have t2 : decide (65536 < s.size) = true := decide_eq_true (by omega)
    rw [F.out.1, F.out.2]
    clear hbig hn HL
    go_enter Tryd.func9, Tryd.ntmps9
    go_wp2_with fail
    refine bodyPost_ret (v := .tuple #[.slice none 0 0, .int .i64 1]) (by simp [results, Tryd.results9, go_sem]) rfl ?_
    exact ne_mk rfl (Nat.le_refl _) (Rd.nil _ _) (Below.refl _ _)
  have F : Hid (enL (bsN s) = encR 0 (bsN s) ∧ enE (bsN s) = 0) := Lib.hid ⟨if_pos (by rw [HL.out]; omega), if_pos (by rw [HL.out]; omega)⟩
  have t1 : decide ((65536 : Int) < (s.size : Int)) = false := decide_eq_false (by omega)
  have t2 : decide (65536 < s.size) = false := decide_eq_false (by omega)
  rw [F.out.1, F.out.2]
  obtain ⟨B, hB⟩ : ∃ B, B = w.heap.size := ⟨_, rfl⟩
  have HBW := Lib.hid hB
  have HNS := Lib.hid hn
  have hn6 : s.size ≤ 65536 := by omega
  have HDG := Lib.hid (fun (r : Nat) (W : World) (h : r ≤ 65536) => rdigits_any r W h)
  clear hB hbig hn
  go_enter Tryd.func9, Tryd.ntmps9
  go_wp2_with fail
  go_loopw [4, 5, 6] (fun v r i wr => EnR (bsN s) n B w v r i wr) (fun _ _ i _ => n - (intOf i).toNat)
  case atStart => exact ⟨0, Nat.zero_le _, rfl, rfl, World.ownsRow_nil _ _ _ _, Below.refl _ _⟩
  case round =>
    obtain ⟨k, hk, rfl, rfl, ho, hb⟩ := hrel
    have hle := es_le ((bsN s).take k)
    have hle2 : ((bsN s).take k).length ≤ k := by rw [List.length_take]; omega
    obtain ⟨out, hout⟩ : ∃ out, out = (es ((bsN s).take k)).1 := ⟨_, rfl⟩
    obtain ⟨run, hrun⟩ : ∃ run, run = (es ((bsN s).take k)).2 := ⟨_, rfl⟩
    rw [← hout, ← hrun] at hle
    rw [← hout] at ho
    rw [← hrun]
    have HES : Hid (es ((bsN s).take k) = (out, run)) := Lib.hid (by rw [hout, hrun])
    have HNN := HNS.out
    have HOW := Lib.hid ho; have HB := Lib.hid hb
    have hok : ∀ j, u4.ownBlock = some j → j < wr.heap.size := fun j e => (ho.lt j e).2
    have hwz : B ≤ wr.heap.size := by rw [HBW.out]; exact hb.size
    have hrb : run ≤ 65536 := by omega
    clear hout hrun ho hb
    by_cases hlt : k < n
    · obtain ⟨x, hx⟩ : ∃ x, x = (s[k]'(by rw [← HNN]; exact hlt)).toNat := ⟨_, rfl⟩
      have hks : k < s.size := by rw [← HNN]; exact hlt
      have ex : ((s[k]'hks).toNat : Int) = (x : Int) := by rw [hx]
      have HTK : Hid (es ((bsN s).take (k + 1)) = estep (out, run) x) := Lib.hid (by rw [bsN_take s k hks, es_snoc, HES.out, hx])
      have hxb : x < 256 := by rw [hx]; exact UInt8.toNat_lt _
      clear hx
      by_cases h0 : x = 0
      · have HN1 : Hid (es ((bsN s).take (k + 1)) = (out, run + 1)) := Lib.hid (by rw [HTK.out, estep, if_pos h0])
        have e1 : ((x : Int) == 0) = true := by rw [beq_iff_eq]; omega
        have e2 : (x == 0) = true := by rw [beq_iff_eq]; exact h0
        obtain ⟨run1, hr1⟩ : ∃ run1, run1 = run + 1 := ⟨_, rfl⟩
        have w2 : (run : Int) + 1 = (run1 : Int) := by omega
        have w3 : IntKind.u64.wrap ((run1 : Int)) = (run1 : Int) := IntWalk.u64_in _ (by omega)
        rw [← hr1] at HN1
        clear h0 hr1
        go_wp2_with fail
        go_roundw
        case rel => exact ⟨k + 1, by omega, by go_num, by rw [HN1.out], by rw [HN1.out]; exact HOW.out, HB.out⟩
        case measure => simp [intOf]; omega
      · have HN1 : Hid (es ((bsN s).take (k + 1)) = (out ++ dg run ++ [x + 1], 0)) := Lib.hid (by rw [HTK.out, estep, if_neg h0])
        have e1 : ((x : Int) == 0) = false := by rw [beq_eq_false_iff_ne]; omega
        have e2 : (x == 0) = false := by rw [beq_eq_false_iff_ne]; exact h0
        have w1 : IntKind.u64.wrap ((x : Int)) = (x : Int) := IntWalk.u64_in _ (by omega)
        obtain ⟨x1, hx1⟩ : ∃ x1, x1 = x + 1 := ⟨_, rfl⟩
        have w2 : (x : Int) + 1 = (x1 : Int) := by omega
        have w3 : IntKind.u64.wrap ((x1 : Int)) = (x1 : Int) := IntWalk.u64_in _ (by omega)
        have HD := Lib.hid (fun W => HDG.out run W hrb)
        have hdl := dg_le run
        obtain ⟨D, hD⟩ : ∃ D, D = dg run := ⟨_, rfl⟩
        obtain ⟨dl, hdl2⟩ : ∃ dl, dl = D.length := ⟨_, rfl⟩
        have HDL := Lib.hid hdl2
        rw [← hD] at HD HN1 hdl
        rw [← hx1] at HN1
        rw [← hdl2] at hdl
        have HNL : Hid (nums (out ++ D ++ [x1]) = nums out ++ nums D ++ [.int .u64 (x1 : Nat)] ∧ (out ++ D ++ [x1]).length = out.length + dl + 1) := Lib.hid ⟨by simp [nums], by simp [hdl2]; omega⟩
        have HDN : Hid ((nums D).length = dl * 1) := Lib.hid (by rw [nums_length, hdl2, Nat.mul_one])
        have HD1 : Hid (∀ W, Calls Tryd.prog 23 #[.int .u64 (run : Int)] W fun e w' => ∃ (q : Option Addr) (c : Nat), e = .returned (.slice q dl c) ∧ Rd w' q (nums D) ∧ Below W.heap.size W w') := Lib.hid (fun W => (HD.out W).mono fun e w' ⟨q, c, h1, h2, h3, h4, h5⟩ => ⟨q, c, by rw [h1, hdl2], h3, h5⟩)
        obtain ⟨ol, hol⟩ : ∃ ol, ol = out.length := ⟨_, rfl⟩
        have HOL := Lib.hid hol
        rw [← hol] at HOW hle HNL
        have hon : (∀ u ∈ [Value.int .u64 (x1 : Nat)], u.oneCell' = true) := by intro u hu; rw [List.mem_singleton] at hu; rw [hu]; rfl
        clear h0 hD hdl2 hx1 HD hol
        go_wp2_with fail
        go_region_law (first
          | (refine step_app (by rfl) _ _ 22 (by rfl) B 31 i0 (.int .u64 0) 1 8 Tryd.underlying22 hi0 hz0 hz1 hz2 (by rfl) (by decide) u4 ol (nums out) (by rfl) q dl c (nums D) (by rfl) HDN.out (nums_one D) (by unfold maxLen; omega) (by omega) (by repeat (first | exact HO1.out | refine own_below ?_ ((Below.refl _ _).alloc (Nat.le_refl _) _) | refine own_below ?_ (Below.drew (Below.refl _ _)))) (by repeat (first | exact HQ1.out | refine Rd.below ?_ ((Below.refl _ _).alloc (Nat.le_refl _) _))) (by first | omega | (simp; omega) | (show B ≤ wr.heap.size; omega)) ?_
             intro v2 w2 hown2 hgr2 hb2 _
             have HO2 := Lib.hid hown2; have HG2 := Lib.hid hgr2
             have HB2 : Hid (Below B w w2) := Lib.hid (Below.trans (by repeat (first | exact HB1.out | refine Below.alloc ?_ (by first | omega | (simp; omega) | (show B ≤ wr.heap.size; omega)) _ | refine Below.drew ?_)) hb2)
             have hz2' : B ≤ w2.heap.size := by rw [HBW.out]; exact HB2.out.size
             clear hown2 hgr2 hb2)
          | (refine step_app (by rfl) _ _ 22 (by rfl) B 31 i0 (.int .u64 0) 1 8 Tryd.underlying22 hi0 hz0 hz1 hz2 (by rfl) (by decide) v2 (ol + dl) (nums out ++ nums D) (by rfl) (some ⟨_, 0, none⟩) 1 1 [.int .u64 (x1 : Nat)] (by rfl) (by rfl) hon (by unfold maxLen; omega) (by omega) (by repeat (first | exact HO2.out | refine own_below ?_ ((Below.refl _ _).alloc (Nat.le_refl _) _) | refine own_below ?_ (Below.drew (Below.refl _ _)))) (by repeat (first | exact Rd.new _ _ _ | refine rd_grown ?_ HG2.out (fun j e => by have := hok j e; simp; omega) | refine Rd.below ?_ HC1.out | refine Rd.below ?_ ((Below.refl _ _).alloc (Nat.le_refl _) _) | refine Rd.below ?_ (Below.drew (Below.refl _ _)))) (by first | omega | (simp; omega) | (show B ≤ wr.heap.size; omega)) ?_
             intro v3 w3 hown3 hgr3 hb3 _
             have HO3 := Lib.hid hown3
             have HB3 : Hid (Below B w w3) := Lib.hid (Below.trans (by repeat (first | exact HB2.out | refine Below.alloc ?_ (by first | omega | (simp; omega) | (show B ≤ wr.heap.size; omega)) _ | refine Below.drew ?_)) hb3)
             clear hown3 hgr3 hb3)
          | (go_simp; go_at_call 23; (with_reducible refine (HD1.out _).mono ?_); rintro e w1 ⟨q, c, rfl, hq1, hb1⟩
             have HQ1 := Lib.hid hq1; have HC1 := Lib.hid hb1
             have HO1 : Hid (w1.ownsRow B 31 1 u4 ol (nums out)) := Lib.hid (own_below (by repeat (first | exact HOW.out | refine own_below ?_ ((Below.refl _ _).alloc (Nat.le_refl _) _) | refine own_below ?_ (Below.drew (Below.refl _ _)))) hb1)
             have HB1 : Hid (Below B w w1) := Lib.hid (Below.trans (by repeat (first | exact HB.out | refine Below.alloc ?_ (by first | omega | (simp; omega) | (show B ≤ wr.heap.size; omega)) _ | refine Below.drew ?_)) (hb1.mono (by first | omega | (simp; omega) | (show B ≤ wr.heap.size; omega))))
             have hws : wr.heap.size ≤ w1.heap.size := Nat.le_trans (by first | exact Nat.le_refl _ | (simp; done) | (simp; omega)) hb1.size
             clear hq1 hb1))
        all_goals go_wp2_with fail
        all_goals go_roundw
        all_goals (first
          | exact ⟨k + 1, by omega, by go_num, by rw [HN1.out]; rfl, by rw [HN1.out, HNL.out.1, HNL.out.2]; exact HO3.out, HB3.out⟩
          | (simp [intOf]; omega))
    · obtain rfl : k = n := by omega
      have hks : ¬ k < s.size := by rw [← HNN]; exact hlt
      have hall : (bsN s).take k = bsN s := List.take_of_length_le (by rw [HL.out]; exact Nat.le_refl _)
      have HFIN : Hid (encR 0 (bsN s) = out ++ dg run ++ [257]) := Lib.hid (by rw [encL_of, ← hall, HES.out])
      have HD := Lib.hid (fun W => HDG.out run W hrb)
      have hdl := dg_le run
      obtain ⟨D, hD⟩ : ∃ D, D = dg run := ⟨_, rfl⟩
      obtain ⟨dl, hdl2⟩ : ∃ dl, dl = D.length := ⟨_, rfl⟩
      rw [← hD] at HD HFIN hdl
      rw [← hdl2] at hdl
      have HNL : Hid (nums (out ++ D ++ [257]) = nums out ++ nums D ++ [.int .u64 (257 : Int)] ∧ (out ++ D ++ [257]).length = out.length + dl + 1) := Lib.hid ⟨by simp [nums], by simp [hdl2]; omega⟩
      have HDN : Hid ((nums D).length = dl * 1) := Lib.hid (by rw [nums_length, hdl2, Nat.mul_one])
      have HD1 : Hid (∀ W, Calls Tryd.prog 23 #[.int .u64 (run : Int)] W fun e w' => ∃ (q : Option Addr) (c : Nat), e = .returned (.slice q dl c) ∧ Rd w' q (nums D) ∧ Below W.heap.size W w') := Lib.hid (fun W => (HD.out W).mono fun e w' ⟨q, c, h1, h2, h3, h4, h5⟩ => ⟨q, c, by rw [h1, hdl2], h3, h5⟩)
      obtain ⟨ol, hol⟩ : ∃ ol, ol = out.length := ⟨_, rfl⟩
      rw [← hol] at HOW hle HNL
      have HON : Hid (∀ u ∈ [Value.int .u64 (257 : Int)], u.oneCell' = true) := Lib.hid (by intro u hu; rw [List.mem_singleton] at hu; rw [hu]; rfl)
      clear hD hdl2 HD hol hall
      go_wp2_with fail
      refine (HD1.out _).mono ?_
      rintro e w1 ⟨q, c, rfl, hq1, hb1⟩
      have HQ1 := Lib.hid hq1
      have HO1 : Hid (w1.ownsRow B 31 1 u4 ol (nums out)) := Lib.hid (own_below HOW.out hb1)
      have HB1 : Hid (Below B w w1) := Lib.hid (HB.out.trans (hb1.mono hwz))
      have hz1' : B ≤ w1.heap.size := by rw [HBW.out]; exact HB1.out.size
      have hm1 : ol + dl ≤ maxLen := by unfold maxLen; omega
      have hm2 : ol + dl + 1 ≤ maxLen := by unfold maxLen; omega
      clear hq1 hb1 hok
      go_wp2_with (at_builtin; refine wpList_app rfl _ _ 22 rfl B 31 i0 (.int .u64 0) 1 8 Tryd.underlying22 hi0 hz0 hz1 hz2 rfl (by decide) u4 ol (nums out) rfl q dl c (nums D) rfl HDN.out (nums_one D) hm1 (by omega) HO1.out HQ1.out hz1' ?_)
      intro v2 w2 hown2 _ hb2 _
      have HO2 := Lib.hid (hown2.alloc (.cells #[.int .u64 (257 : Int)] 31))
      have HB2 : Hid (Below B w w2) := Lib.hid (HB1.out.trans hb2)
      have hz2' : B ≤ w2.heap.size := by rw [HBW.out]; exact HB2.out.size
      clear hown2 hb2
      go_wp2_with (at_builtin; refine wpList_app rfl _ _ 22 rfl B 31 i0 (.int .u64 0) 1 8 Tryd.underlying22 hi0 hz0 hz1 hz2 rfl (by decide) v2 (ol + dl) (nums out ++ nums D) rfl (some ⟨w2.heap.size, 0, none⟩) 1 1 [.int .u64 (257 : Int)] rfl rfl HON.out hm2 (by omega) HO2.out (Rd.new _ _ _) (by simp; omega) ?_)
      intro v3 w3 hown3 _ hb3 _
      have hB3 : Below B w w3 := (HB2.out.alloc hz2' _).trans hb3
      rw [← List.append_assoc, ← HNL.out.1] at hown3
      obtain ⟨q5, c5, rfl, hc5, hr5, _⟩ := own_rdN hown3
      have F3 : Hid (NE w (encR 0 (bsN s)) 0 (.returned (.tuple #[.slice q5 (ol + dl + 1) c5, .int .i64 0])) w3) := Lib.hid (by
        rw [HFIN.out]
        exact ne_mk HNL.out.2 hc5 hr5 (by rw [← HBW.out]; exact hB3))
      clear hown3 hb3 hB3 hr5
      go_wp2_with fail
      refine bodyPost_ret (v := .tuple #[.slice q5 (ol + dl + 1) c5, .int .i64 0]) (by simp [results, Tryd.results9, go_sem]) rfl ?_
      exact F3.out
end Go.Proofs.YtbegngilbngnoaaDoor.Ze
