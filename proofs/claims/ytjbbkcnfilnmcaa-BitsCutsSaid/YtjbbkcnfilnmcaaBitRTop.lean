/- The document's Turn and Cut, of any bits. -/
import Derived.Test.YtjbbkcnfilnmcaaBitRTurn
import Derived.Test.YtjbbkcnfilnmcaaBitRCut
namespace Go.Proofs.Ytjbbkcnfilnmcaa.Bt
open Go.RowKit

set_option maxHeartbeats 8000000 in
theorem rturn_top (s : ByteArray) (n i : Int) (w : World) (hs : s.size ≤ maxLen) :
    Calls Try.prog 15 #[.agg #[.string s, .int .i64 n], .int .i64 i] w fun e w' => e = .returned (.tuple #[.agg #[.string (turnS s n i), .int .i64 (turnN s n i)], .int .i64 (turnE s n i)]) ∧ Below w.heap.size w w' := by
  have hbx : Below w.heap.size w ((w.alloc (.cells #[.string s, .int .i64 n] 23)).alloc (.cells #[.string ⟨#[]⟩, .int .i64 0] 23)) := ((Below.refl _ _).alloc (Nat.le_refl _) _).alloc (by simp) _
  rcases chk_cases s n with hc | hc
  case inr =>
    have e1 : turnE s n i = 2 := if_pos (by omega)
    have FS : Hid (turnS s n i = ⟨#[]⟩ ∧ turnN s n i = 0 ∧ turnE s n i = 2) := Lib.hid ⟨by unfold turnS; rw [if_neg (by omega), if_pos e1], if_pos e1, e1⟩
    clear e1
    go_enter Try.func15, Try.ntmps15
    go_wp2_with fail
    refine (rcheck_any _ _ _ hs).mono ?_
    rintro e w1 ⟨rfl, b1⟩
    have x0 := (box_end b1).1; have x1 := (box_end b1).2
    have c0 := x0.c0; have c1 := x0.c1
    have q0 := x1.c0; have q1 := x1.c1; have p0 := x1.f0; have p1 := x1.f1
    have x2 := x1.set ⟨#[]⟩ 0
    have b2 := hbx.trans (b1.mono (by simp; omega))
    have b3 := Lib.hid ((b2.setCell (p := ⟨w.heap.size + 1, 0, none⟩) (Nat.le_succ _) (.string ⟨#[]⟩)).setCell (p := ⟨w.heap.size + 1, 1, none⟩) (Nat.le_succ _) (.int .i64 0))
    have z0 := Lib.hid x2.c0; have z1 := Lib.hid x2.c1
    rw [hc]
    clear b1 b2 x0 x1 x2
    go_wp2_with fail
    refine bodyPost_ret (v := .tuple #[.agg #[.string ⟨#[]⟩, .int .i64 0], .int .i64 2]) (by simp [results, Try.results15, go_sem, z0.out, z1.out]) rfl ⟨ret_bit FS.out.1.symm FS.out.2.1.symm FS.out.2.2.symm, b3.out⟩
  have hR := chk_zero hc
  obtain ⟨m, rfl⟩ := Int.eq_ofNat_of_zero_le hR.1
  have hm : m ≤ 1048576 := by have := hR.2.1; omega
  by_cases hbad : i < 0 ∨ (m : Int) ≤ i
  · have e1 : turnE s m i = 1 := by unfold turnE; rw [if_neg (by omega), if_pos hbad]
    have FS : Hid (turnS s m i = s ∧ turnN s m i = m ∧ turnE s m i = 1) := Lib.hid ⟨by unfold turnS; rw [if_neg (by omega), if_neg (by omega)], if_neg (by omega), e1⟩
    clear e1 hR
    by_cases q1 : i < 0
    · go_enter Try.func15, Try.ntmps15
      go_wp2_with fail
      refine (rcheck_any _ _ _ hs).mono ?_
      rintro e w1 ⟨rfl, b1⟩
      have x0 := (box_end b1).1; have x1 := (box_end b1).2
      have c0 := x0.c0; have c1 := x0.c1
      have q0 := x1.c0; have q1 := x1.c1; have p0 := x1.f0; have p1 := x1.f1
      have x2 := x1.set s m
      have b2 := hbx.trans (b1.mono (by simp; omega))
      have b3 := Lib.hid ((b2.setCell (p := ⟨w.heap.size + 1, 0, none⟩) (Nat.le_succ _) (.string s)).setCell (p := ⟨w.heap.size + 1, 1, none⟩) (Nat.le_succ _) (.int .i64 m))
      have z0 := Lib.hid x2.c0; have z1 := Lib.hid x2.c1
      rw [hc]
      clear b1 b2 x0 x1 x2
      go_wp2_with fail
      refine bodyPost_ret (v := .tuple #[.agg #[.string s, .int .i64 m], .int .i64 1]) (by simp [results, Try.results15, go_sem, z0.out, z1.out]) rfl ⟨ret_bit FS.out.1.symm FS.out.2.1.symm FS.out.2.2.symm, b3.out⟩
    have q3 : (m : Int) ≤ i := by omega
    clear hbad
    go_enter Try.func15, Try.ntmps15
    go_wp2_with fail
    refine (rcheck_any _ _ _ hs).mono ?_
    rintro e w1 ⟨rfl, b1⟩
    have x0 := (box_end b1).1; have x1 := (box_end b1).2
    have c0 := x0.c0; have c1 := x0.c1
    have q0 := x1.c0; have q1 := x1.c1; have p0 := x1.f0; have p1 := x1.f1
    have x2 := x1.set s m
    have b2 := hbx.trans (b1.mono (by simp; omega))
    have b3 := Lib.hid ((b2.setCell (p := ⟨w.heap.size + 1, 0, none⟩) (Nat.le_succ _) (.string s)).setCell (p := ⟨w.heap.size + 1, 1, none⟩) (Nat.le_succ _) (.int .i64 m))
    have z0 := Lib.hid x2.c0; have z1 := Lib.hid x2.c1
    rw [hc]
    clear b1 b2 x0 x1 x2
    go_wp2_with fail
    refine bodyPost_ret (v := .tuple #[.agg #[.string s, .int .i64 m], .int .i64 1]) (by simp [results, Try.results15, go_sem, z0.out, z1.out]) rfl ⟨ret_bit FS.out.1.symm FS.out.2.1.symm FS.out.2.2.symm, b3.out⟩
  obtain ⟨i, rfl⟩ := Int.eq_ofNat_of_zero_le (show 0 ≤ i by omega)
  have him : i < m := by omega
  have e1 : turnE s m i = 0 := by unfold turnE; rw [if_neg (by omega), if_neg hbad]
  have eS := (show turnS s m i = packS (flip (bl (bytes s) (m : Int).toNat) ((i : Int)).toNat) from if_pos e1)
  have eN : turnN s m i = m := if_neg (by omega)
  rw [eS, eN, e1, Int.toNat_natCast, Int.toNat_natCast]
  exact rturn_any s m i w hs hc him

set_option maxHeartbeats 8000000 in
theorem rcut_any (s : ByteArray) (n a c : Int) (w : World) (hs : s.size ≤ maxLen) :
    Calls Try.prog 13 #[.agg #[.string s, .int .i64 n], .int .i64 a, .int .i64 c] w fun e w' => e = .returned (.tuple #[.agg #[.string (cutS s n a c), .int .i64 (cutN s n a c)], .int .i64 (cutE s n a c)]) ∧ Below w.heap.size w w' := by
  have hbx : Below w.heap.size w ((w.alloc (.cells #[.string s, .int .i64 n] 23)).alloc (.cells #[.string ⟨#[]⟩, .int .i64 0] 23)) := ((Below.refl _ _).alloc (Nat.le_refl _) _).alloc (by simp) _
  rcases chk_cases s n with hc | hc
  case inr =>
    have e1 : cutE s n a c = 2 := if_pos (by omega)
    have FS : Hid (cutS s n a c = ⟨#[]⟩ ∧ cutN s n a c = 0 ∧ cutE s n a c = 2) := Lib.hid ⟨if_neg (by omega), if_neg (by omega), e1⟩
    clear e1
    go_enter Try.func13, Try.ntmps13
    go_wp2_with fail
    refine (rcheck_any _ _ _ hs).mono ?_
    rintro e w1 ⟨rfl, b1⟩
    have x0 := (box_end b1).1; have x1 := (box_end b1).2
    have c0 := x0.c0; have c1 := x0.c1
    have q0 := x1.c0; have q1 := x1.c1; have p0 := x1.f0; have p1 := x1.f1
    have x2 := x1.set ⟨#[]⟩ 0
    have b2 := hbx.trans (b1.mono (by simp; omega))
    have b3 := Lib.hid ((b2.setCell (p := ⟨w.heap.size + 1, 0, none⟩) (Nat.le_succ _) (.string ⟨#[]⟩)).setCell (p := ⟨w.heap.size + 1, 1, none⟩) (Nat.le_succ _) (.int .i64 0))
    have z0 := Lib.hid x2.c0; have z1 := Lib.hid x2.c1
    rw [hc]
    clear b1 b2 x0 x1 x2
    go_wp2_with fail
    refine bodyPost_ret (v := .tuple #[.agg #[.string ⟨#[]⟩, .int .i64 0], .int .i64 2]) (by simp [results, Try.results13, go_sem, z0.out, z1.out]) rfl ⟨ret_bit FS.out.1.symm FS.out.2.1.symm FS.out.2.2.symm, b3.out⟩
  have hR := chk_zero hc
  obtain ⟨m, rfl⟩ := Int.eq_ofNat_of_zero_le hR.1
  have hm : m ≤ 1048576 := by have := hR.2.1; omega
  by_cases hbad : a < 0 ∨ c < 0 ∨ (m : Int) < a
  · have e1 : cutE s m a c = 1 := by unfold cutE; rw [if_neg (by omega), if_pos hbad]
    have FS : Hid (cutS s m a c = ⟨#[]⟩ ∧ cutN s m a c = 0 ∧ cutE s m a c = 1) := Lib.hid ⟨if_neg (by omega), if_neg (by omega), e1⟩
    clear e1 hR
    by_cases q1 : a < 0
    · go_enter Try.func13, Try.ntmps13
      go_wp2_with fail
      refine (rcheck_any _ _ _ hs).mono ?_
      rintro e w1 ⟨rfl, b1⟩
      have x0 := (box_end b1).1; have x1 := (box_end b1).2
      have c0 := x0.c0; have c1 := x0.c1
      have q0 := x1.c0; have q1 := x1.c1; have p0 := x1.f0; have p1 := x1.f1
      have x2 := x1.set ⟨#[]⟩ 0
      have b2 := hbx.trans (b1.mono (by simp; omega))
      have b3 := Lib.hid ((b2.setCell (p := ⟨w.heap.size + 1, 0, none⟩) (Nat.le_succ _) (.string ⟨#[]⟩)).setCell (p := ⟨w.heap.size + 1, 1, none⟩) (Nat.le_succ _) (.int .i64 0))
      have z0 := Lib.hid x2.c0; have z1 := Lib.hid x2.c1
      rw [hc]
      clear b1 b2 x0 x1 x2
      go_wp2_with fail
      refine bodyPost_ret (v := .tuple #[.agg #[.string ⟨#[]⟩, .int .i64 0], .int .i64 1]) (by simp [results, Try.results13, go_sem, z0.out, z1.out]) rfl ⟨ret_bit FS.out.1.symm FS.out.2.1.symm FS.out.2.2.symm, b3.out⟩
    by_cases q2 : c < 0
    · go_enter Try.func13, Try.ntmps13
      go_wp2_with fail
      refine (rcheck_any _ _ _ hs).mono ?_
      rintro e w1 ⟨rfl, b1⟩
      have x0 := (box_end b1).1; have x1 := (box_end b1).2
      have c0 := x0.c0; have c1 := x0.c1
      have q0 := x1.c0; have q1 := x1.c1; have p0 := x1.f0; have p1 := x1.f1
      have x2 := x1.set ⟨#[]⟩ 0
      have b2 := hbx.trans (b1.mono (by simp; omega))
      have b3 := Lib.hid ((b2.setCell (p := ⟨w.heap.size + 1, 0, none⟩) (Nat.le_succ _) (.string ⟨#[]⟩)).setCell (p := ⟨w.heap.size + 1, 1, none⟩) (Nat.le_succ _) (.int .i64 0))
      have z0 := Lib.hid x2.c0; have z1 := Lib.hid x2.c1
      rw [hc]
      clear b1 b2 x0 x1 x2
      go_wp2_with fail
      refine bodyPost_ret (v := .tuple #[.agg #[.string ⟨#[]⟩, .int .i64 0], .int .i64 1]) (by simp [results, Try.results13, go_sem, z0.out, z1.out]) rfl ⟨ret_bit FS.out.1.symm FS.out.2.1.symm FS.out.2.2.symm, b3.out⟩
    have q3 : (m : Int) < a := by omega
    clear hbad
    go_enter Try.func13, Try.ntmps13
    go_wp2_with fail
    refine (rcheck_any _ _ _ hs).mono ?_
    rintro e w1 ⟨rfl, b1⟩
    have x0 := (box_end b1).1; have x1 := (box_end b1).2
    have c0 := x0.c0; have c1 := x0.c1
    have q0 := x1.c0; have q1 := x1.c1; have p0 := x1.f0; have p1 := x1.f1
    have x2 := x1.set ⟨#[]⟩ 0
    have b2 := hbx.trans (b1.mono (by simp; omega))
    have b3 := Lib.hid ((b2.setCell (p := ⟨w.heap.size + 1, 0, none⟩) (Nat.le_succ _) (.string ⟨#[]⟩)).setCell (p := ⟨w.heap.size + 1, 1, none⟩) (Nat.le_succ _) (.int .i64 0))
    have z0 := Lib.hid x2.c0; have z1 := Lib.hid x2.c1
    rw [hc]
    clear b1 b2 x0 x1 x2
    go_wp2_with fail
    refine bodyPost_ret (v := .tuple #[.agg #[.string ⟨#[]⟩, .int .i64 0], .int .i64 1]) (by simp [results, Try.results13, go_sem, z0.out, z1.out]) rfl ⟨ret_bit FS.out.1.symm FS.out.2.1.symm FS.out.2.2.symm, b3.out⟩
  obtain ⟨a, rfl⟩ := Int.eq_ofNat_of_zero_le (show 0 ≤ a by omega)
  obtain ⟨c, rfl⟩ := Int.eq_ofNat_of_zero_le (show 0 ≤ c by omega)
  have ham : a ≤ m := by omega
  by_cases q4 : (m : Int) - a < c
  · have e1 : cutE s m a c = 5 := by unfold cutE; rw [if_neg (by omega), if_neg hbad, if_pos q4]
    have FS : Hid (cutS s m a c = ⟨#[]⟩ ∧ cutN s m a c = 0 ∧ cutE s m a c = 5) := Lib.hid ⟨if_neg (by omega), if_neg (by omega), e1⟩
    clear e1 hR hbad
    go_enter Try.func13, Try.ntmps13
    go_wp2_with fail
    refine (rcheck_any _ _ _ hs).mono ?_
    rintro e w1 ⟨rfl, b1⟩
    have x0 := (box_end b1).1; have x1 := (box_end b1).2
    have c0 := x0.c0; have c1 := x0.c1
    have q0 := x1.c0; have q1 := x1.c1; have p0 := x1.f0; have p1 := x1.f1
    have x2 := x1.set ⟨#[]⟩ 0
    have b2 := hbx.trans (b1.mono (by simp; omega))
    have b3 := Lib.hid ((b2.setCell (p := ⟨w.heap.size + 1, 0, none⟩) (Nat.le_succ _) (.string ⟨#[]⟩)).setCell (p := ⟨w.heap.size + 1, 1, none⟩) (Nat.le_succ _) (.int .i64 0))
    have z0 := Lib.hid x2.c0; have z1 := Lib.hid x2.c1
    rw [hc]
    clear b1 b2 x0 x1 x2
    go_wp2_with fail
    refine bodyPost_ret (v := .tuple #[.agg #[.string ⟨#[]⟩, .int .i64 0], .int .i64 5]) (by simp [results, Try.results13, go_sem, z0.out, z1.out]) rfl ⟨ret_bit FS.out.1.symm FS.out.2.1.symm FS.out.2.2.symm, b3.out⟩
  have e1 : cutE s m a c = 0 := by unfold cutE; rw [if_neg (by omega), if_neg hbad, if_neg q4]
  have eS : cutS s m a c = packS (((bl (bytes s) m).drop a).take c) := by unfold cutS; rw [if_pos e1]; simp
  have eN : cutN s m a c = c := if_pos e1
  rw [eS, eN, e1]
  exact rcut_ok s m a c w hs hc (by omega)
end Go.Proofs.Ytjbbkcnfilnmcaa.Bt
