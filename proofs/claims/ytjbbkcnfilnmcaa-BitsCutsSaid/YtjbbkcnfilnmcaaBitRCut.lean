/- The walk of the document's Cut. -/
import Derived.Test.YtjbbkcnfilnmcaaBitPutR
import Derived.Test.YtjbbkcnfilnmcaaBitCut
namespace Go.Proofs.Ytjbbkcnfilnmcaa.Bt
open Go.RowKit

theorem of_len (p : Option Addr) (cap : Nat) (Y : List Bool) (k : Nat) (hk : Y.length = k) (w : World) (hl : BoolsAt w p Y) (hn : k ≤ 2000000) :
    Calls Try.prog 42 #[.slice p k cap] w fun e w' => e = .returned (.agg #[.string (packS Y), .int .i64 k]) ∧ Below w.heap.size w w' := by
  subst hk
  exact of_any p cap Y w hl hn

set_option maxHeartbeats 8000000 in
theorem rcut_ok (s : ByteArray) (m a c : Nat) (w : World) (hs : s.size ≤ maxLen) (hc : chk s m = 0) (hac : a + c ≤ m) :
    Calls Try.prog 13 #[.agg #[.string s, .int .i64 m], .int .i64 a, .int .i64 c] w fun e w' => e = .returned (.tuple #[.agg #[.string (packS (((bl (bytes s) m).drop a).take c)), .int .i64 c], .int .i64 0]) ∧ Below w.heap.size w w' := by
  have hbx : Below w.heap.size w ((w.alloc (.cells #[.string s, .int .i64 m] 23)).alloc (.cells #[.string ⟨#[]⟩, .int .i64 0] 23)) := ((Below.refl _ _).alloc (Nat.le_refl _) _).alloc (by simp) _
  have hR := chk_zero hc
  have hpk := hR.packs
  have hm : m ≤ 1048576 := by have := hR.2.1; omega
  rw [Int.toNat_natCast] at hpk
  have hXm := bl_length (bytes s) m
  generalize bl (bytes s) m = X at hpk hXm ⊢
  have HPK := Lib.hid hpk; have HXM := Lib.hid hXm
  clear hpk hXm hR
  go_enter Try.func13, Try.ntmps13
  go_wp2_with fail
  refine (rcheck_any _ _ _ hs).mono ?_
  rintro e w1 ⟨rfl, b1⟩
  have x0 := (box_end b1).1; have x1 := (box_end b1).2
  have c0 := x0.c0; have c1 := x0.c1
  have X1 := Lib.hid x1
  have B2 := Lib.hid (hbx.trans (b1.mono (by simp; omega)))
  have z2 : w.heap.size + 2 ≤ w1.heap.size := by have := x1.lt; omega
  rw [hc]
  clear b1 x0 x1
  go_wp2_with fail
  refine (all_of s X m HXM.out HPK.out hm _ (w.heap.size + 2) z2).mono ?_
  rintro e w2 ⟨v0, rfl, hown, b3⟩
  have x3 := X1.out.below b3
  have b4 := B2.out.trans (b3.mono (by omega))
  have hcl : ((X.drop a).take c).length = c := by rw [List.length_take, List.length_drop, HXM.out]; omega
  have X3 := Lib.hid x3; have B4 := Lib.hid b4
  clear x3 b3 b4
  rcases hown.2 with ⟨rfl, h0⟩ | ⟨g, cap, cur, rfl, hgb, hh, hmc, hcm, _⟩
  · obtain rfl : a = 0 := by omega
    obtain rfl : c = 0 := by omega
    have HCL := Lib.hid hcl
    clear hcl hown
    go_wp2_with fail
    refine (of_len _ _ ((X.drop 0).take 0) 0 HCL.out _ (fun i hi => absurd hi (by rw [HCL.out]; omega)) (by omega)).mono ?_
    rintro e w3 ⟨rfl, b5⟩
    have x5 := X3.out.below b5
    have q0 := x5.c0; have q1 := x5.c1; have p0 := x5.f0; have p1 := x5.f1
    obtain ⟨S, hS⟩ : ∃ S, S = packS ((X.drop 0).take 0) := ⟨_, rfl⟩
    rw [← hS]
    have x6 := x5.set S 0
    have z0 := Lib.hid x6.c0; have z1 := Lib.hid x6.c1; have HS := Lib.hid hS
    have b6 := Lib.hid (((B4.out.trans (b5.mono B4.out.size)).setCell (p := ⟨w.heap.size + 1, 0, none⟩) (Nat.le_succ _) (.string S)).setCell (p := ⟨w.heap.size + 1, 1, none⟩) (Nat.le_succ _) (.int .i64 0))
    clear x5 x6 b5 hS
    go_wp2_with fail
    refine bodyPost_ret (v := .tuple #[.agg #[.string S, .int .i64 0], .int .i64 0]) (by simp [results, Try.results13, go_sem, z0.out, z1.out]) rfl ⟨by rw [HS.out]; rfl, b6.out⟩
  · have hcells : ∀ j, j < m → w2.cell? ⟨g, j, none⟩ = some (.bool (X.getD j false)) := by
      intro j hj
      rw [hown.cellAt j (by omega)]
      have := HXM.out
      simp [bools, List.getD_eq_getElem?_getD, List.getElem?_eq_getElem (show j < X.length by omega)]
    have hat : BoolsAt w2 (some ⟨g, a, none⟩) ((X.drop a).take c) := fun i hi => by
      rw [hcl] at hi
      refine ⟨g, a, rfl, (Array.getElem?_eq_some_iff.1 hh).1, ?_⟩
      rw [hcells (a + i) (by omega)]
      simp [List.getD_eq_getElem?_getD, List.getElem?_drop, hi]
    unfold maxLen at hcm
    have HH := Lib.hid hat; have HCL := Lib.hid hcl
    obtain ⟨t, ht⟩ : ∃ t, t = a + c := ⟨_, rfl⟩
    have e1 : (a : Int) + (c : Int) = (t : Int) := by omega
    have e2 : (t : Int) ≤ (cap : Int) := by omega
    have e3 : (a : Int) ≤ (t : Int) := by omega
    have e4 : (t : Int) - (a : Int) = (c : Int) := by omega
    have HT := Lib.hid ht
    clear hat hcl hown hh hcells ht
    go_wp2_with fail
    all_goals rw [show t - a = c from by have := HT.out; omega]
    all_goals refine (of_len _ _ ((X.drop a).take c) c HCL.out _ (by first | exact HH.out | exact fun i hi => absurd hi (by rw [HCL.out]; have := HT.out; omega)) (by omega)).mono ?_
    all_goals rintro e w3 ⟨rfl, b5⟩
    all_goals have x5 := X3.out.below b5
    all_goals have q0 := x5.c0
    all_goals have q1 := x5.c1
    all_goals have p0 := x5.f0
    all_goals have p1 := x5.f1
    all_goals have x6 := x5.set (packS ((X.drop a).take c)) (c : Int)
    all_goals have z0 := Lib.hid x6.c0
    all_goals have z1 := Lib.hid x6.c1
    all_goals have b6 := Lib.hid (((B4.out.trans (b5.mono B4.out.size)).setCell (p := ⟨w.heap.size + 1, 0, none⟩) (Nat.le_succ _) (.string (packS ((X.drop a).take c)))).setCell (p := ⟨w.heap.size + 1, 1, none⟩) (Nat.le_succ _) (.int .i64 c))
    all_goals clear x5 x6 b5
    all_goals go_wp2_with fail
    all_goals refine bodyPost_ret (v := .tuple #[.agg #[.string (packS ((X.drop a).take c)), .int .i64 c], .int .i64 0]) (by simp [results, Try.results13, go_sem, z0.out, z1.out]) rfl ⟨rfl, b6.out⟩
end Go.Proofs.Ytjbbkcnfilnmcaa.Bt
