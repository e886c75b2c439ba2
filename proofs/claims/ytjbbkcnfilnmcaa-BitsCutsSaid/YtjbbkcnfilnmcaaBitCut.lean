/- The walk of Cut. -/
import Derived.Test.YtjbbkcnfilnmcaaBitGather
import Derived.Test.YtjbbkcnfilnmcaaBitPutR
namespace Go.Proofs.Ytjbbkcnfilnmcaa.Bt
open Go.RowKit

noncomputable def cutE (s : ByteArray) (n a c : Int) : Int := if chk s n ≠ 0 then 2 else if a < 0 ∨ c < 0 ∨ n < a then 1 else if n - a < c then 5 else 0
noncomputable def cutS (s : ByteArray) (n a c : Int) : ByteArray := if cutE s n a c = 0 then packS (((bl (bytes s) n.toNat).drop a.toNat).take c.toNat) else ⟨#[]⟩
noncomputable def cutN (s : ByteArray) (n a c : Int) : Int := if cutE s n a c = 0 then c else 0

set_option maxHeartbeats 8000000 in
theorem cut_any (s : ByteArray) (n a c : Int) (w : World) (hs : s.size ≤ maxLen) :
    Calls Try.prog 12 #[.agg #[.string s, .int .i64 n], .int .i64 a, .int .i64 c] w fun e w' => e = .returned (.tuple #[.agg #[.string (cutS s n a c), .int .i64 (cutN s n a c)], .int .i64 (cutE s n a c)]) ∧ Below w.heap.size w w' := by
  have hbx : Below w.heap.size w ((w.alloc (.cells #[.string s, .int .i64 n] 23)).alloc (.cells #[.string ⟨#[]⟩, .int .i64 0] 23)) := ((Below.refl _ _).alloc (Nat.le_refl _) _).alloc (by simp) _
  rcases chk_cases s n with hc | hc
  case inr =>
    have e1 : cutE s n a c = 2 := if_pos (by omega)
    have FS : Hid (cutS s n a c = ⟨#[]⟩ ∧ cutN s n a c = 0 ∧ cutE s n a c = 2) := Lib.hid ⟨if_neg (by omega), if_neg (by omega), e1⟩
    clear e1
    go_enter Try.func12, Try.ntmps12
    go_wp2_with fail
    refine (check_any _ _ _ hs).mono ?_
    rintro e w1 ⟨rfl, b1⟩
    have x0 := (box_end b1).1; have x1 := (box_end b1).2
    have c0 := x0.c0; have c1 := x0.c1
    have q0 := x1.c0; have q1 := x1.c1; have p0 := x1.f0; have p1 := x1.f1
    have x2 := x1.set ⟨#[]⟩ 0
    have b2 := hbx.trans (b1.mono (by simp; omega))
    have b3 := Lib.hid ((b2.setCell (p := ⟨w.heap.size + 1, 0, none⟩) (Nat.le_succ _) (.string ⟨#[]⟩)).setCell (p := ⟨w.heap.size + 1, 1, none⟩) (Nat.le_succ _) (.int .i64 0))
    have z0 := Lib.hid x2.c0; have z1 := Lib.hid x2.c1
    rw [hc]
    clear b1 b2 x0 x1 x2
    go_wp2_with fail
    refine bodyPost_ret (v := .tuple #[.agg #[.string ⟨#[]⟩, .int .i64 0], .int .i64 2]) (by simp [results, Try.results12, go_sem, z0.out, z1.out]) rfl ⟨ret_bit FS.out.1.symm FS.out.2.1.symm FS.out.2.2.symm, b3.out⟩
  have hR := chk_zero hc
  have hsm := size_small hR
  have hpk := hR.packs
  obtain ⟨m, rfl⟩ := Int.eq_ofNat_of_zero_le hR.1
  have hm : m ≤ 1048576 := by have := hR.2.1; omega
  by_cases hbad : a < 0 ∨ c < 0 ∨ (m : Int) < a
  · have e1 : cutE s m a c = 1 := by unfold cutE; rw [if_neg (by omega), if_pos hbad]
    have FS : Hid (cutS s m a c = ⟨#[]⟩ ∧ cutN s m a c = 0 ∧ cutE s m a c = 1) := Lib.hid ⟨if_neg (by omega), if_neg (by omega), e1⟩
    clear e1 hR hpk
    by_cases q1 : a < 0
    · go_enter Try.func12, Try.ntmps12
      go_wp2_with fail
      refine (check_any _ _ _ hs).mono ?_
      rintro e w1 ⟨rfl, b1⟩
      have x0 := (box_end b1).1; have x1 := (box_end b1).2
      have c0 := x0.c0; have c1 := x0.c1
      have q0 := x1.c0; have q1 := x1.c1; have p0 := x1.f0; have p1 := x1.f1
      have x2 := x1.set ⟨#[]⟩ 0
      have b2 := hbx.trans (b1.mono (by simp; omega))
      have b3 := Lib.hid ((b2.setCell (p := ⟨w.heap.size + 1, 0, none⟩) (Nat.le_succ _) (.string ⟨#[]⟩)).setCell (p := ⟨w.heap.size + 1, 1, none⟩) (Nat.le_succ _) (.int .i64 0))
      have z0 := Lib.hid x2.c0; have z1 := Lib.hid x2.c1
      rw [hc]
      clear b1 b2 x0 x1 x2
      go_wp2_with fail
      refine bodyPost_ret (v := .tuple #[.agg #[.string ⟨#[]⟩, .int .i64 0], .int .i64 1]) (by simp [results, Try.results12, go_sem, z0.out, z1.out]) rfl ⟨ret_bit FS.out.1.symm FS.out.2.1.symm FS.out.2.2.symm, b3.out⟩
    by_cases q2 : c < 0
    · go_enter Try.func12, Try.ntmps12
      go_wp2_with fail
      refine (check_any _ _ _ hs).mono ?_
      rintro e w1 ⟨rfl, b1⟩
      have x0 := (box_end b1).1; have x1 := (box_end b1).2
      have c0 := x0.c0; have c1 := x0.c1
      have q0 := x1.c0; have q1 := x1.c1; have p0 := x1.f0; have p1 := x1.f1
      have x2 := x1.set ⟨#[]⟩ 0
      have b2 := hbx.trans (b1.mono (by simp; omega))
      have b3 := Lib.hid ((b2.setCell (p := ⟨w.heap.size + 1, 0, none⟩) (Nat.le_succ _) (.string ⟨#[]⟩)).setCell (p := ⟨w.heap.size + 1, 1, none⟩) (Nat.le_succ _) (.int .i64 0))
      have z0 := Lib.hid x2.c0; have z1 := Lib.hid x2.c1
      rw [hc]
      clear b1 b2 x0 x1 x2
      go_wp2_with fail
      refine bodyPost_ret (v := .tuple #[.agg #[.string ⟨#[]⟩, .int .i64 0], .int .i64 1]) (by simp [results, Try.results12, go_sem, z0.out, z1.out]) rfl ⟨ret_bit FS.out.1.symm FS.out.2.1.symm FS.out.2.2.symm, b3.out⟩
    have q3 : (m : Int) < a := by omega
    clear hbad
    go_enter Try.func12, Try.ntmps12
    go_wp2_with fail
    refine (check_any _ _ _ hs).mono ?_
    rintro e w1 ⟨rfl, b1⟩
    have x0 := (box_end b1).1; have x1 := (box_end b1).2
    have c0 := x0.c0; have c1 := x0.c1
    have q0 := x1.c0; have q1 := x1.c1; have p0 := x1.f0; have p1 := x1.f1
    have x2 := x1.set ⟨#[]⟩ 0
    have b2 := hbx.trans (b1.mono (by simp; omega))
    have b3 := Lib.hid ((b2.setCell (p := ⟨w.heap.size + 1, 0, none⟩) (Nat.le_succ _) (.string ⟨#[]⟩)).setCell (p := ⟨w.heap.size + 1, 1, none⟩) (Nat.le_succ _) (.int .i64 0))
    have z0 := Lib.hid x2.c0; have z1 := Lib.hid x2.c1
    rw [hc]
    clear b1 b2 x0 x1 x2
    go_wp2_with fail
    refine bodyPost_ret (v := .tuple #[.agg #[.string ⟨#[]⟩, .int .i64 0], .int .i64 1]) (by simp [results, Try.results12, go_sem, z0.out, z1.out]) rfl ⟨ret_bit FS.out.1.symm FS.out.2.1.symm FS.out.2.2.symm, b3.out⟩
  obtain ⟨a, rfl⟩ := Int.eq_ofNat_of_zero_le (show 0 ≤ a by omega)
  obtain ⟨c, rfl⟩ := Int.eq_ofNat_of_zero_le (show 0 ≤ c by omega)
  have ham : a ≤ m := by omega
  by_cases q4 : (m : Int) - a < c
  · have e1 : cutE s m a c = 5 := by unfold cutE; rw [if_neg (by omega), if_neg hbad, if_pos q4]
    have FS : Hid (cutS s m a c = ⟨#[]⟩ ∧ cutN s m a c = 0 ∧ cutE s m a c = 5) := Lib.hid ⟨if_neg (by omega), if_neg (by omega), e1⟩
    clear e1 hR hpk hbad
    go_enter Try.func12, Try.ntmps12
    go_wp2_with fail
    refine (check_any _ _ _ hs).mono ?_
    rintro e w1 ⟨rfl, b1⟩
    have x0 := (box_end b1).1; have x1 := (box_end b1).2
    have c0 := x0.c0; have c1 := x0.c1
    have q0 := x1.c0; have q1 := x1.c1; have p0 := x1.f0; have p1 := x1.f1
    have x2 := x1.set ⟨#[]⟩ 0
    have b2 := hbx.trans (b1.mono (by simp; omega))
    have b3 := Lib.hid ((b2.setCell (p := ⟨w.heap.size + 1, 0, none⟩) (Nat.le_succ _) (.string ⟨#[]⟩)).setCell (p := ⟨w.heap.size + 1, 1, none⟩) (Nat.le_succ _) (.int .i64 0))
    have z0 := Lib.hid x2.c0; have z1 := Lib.hid x2.c1
    rw [hc]
    clear b1 b2 x0 x1 x2
    go_wp2_with fail
    refine bodyPost_ret (v := .tuple #[.agg #[.string ⟨#[]⟩, .int .i64 0], .int .i64 5]) (by simp [results, Try.results12, go_sem, z0.out, z1.out]) rfl ⟨ret_bit FS.out.1.symm FS.out.2.1.symm FS.out.2.2.symm, b3.out⟩
  have e1 : cutE s m a c = 0 := by unfold cutE; rw [if_neg (by omega), if_neg hbad, if_neg q4]
  have hacm : a + c ≤ m := by omega
  have FS : Hid (cutS s m a c = packS (((bl (bytes s) m).drop a).take c) ∧ cutN s m a c = c ∧ cutE s m a c = 0) := Lib.hid ⟨by unfold cutS; rw [if_pos e1]; simp, by unfold cutN; rw [if_pos e1], e1⟩
  rw [Int.toNat_natCast] at hpk
  have hl := bl_length (bytes s) m
  generalize bl (bytes s) m = Y at hpk hl FS
  have HY := Lib.hid hpk; have HYL := Lib.hid hl
  clear e1 hR hpk hl hbad
  go_enter Try.func12, Try.ntmps12
  go_wp2_with fail
  refine (check_any _ _ _ hs).mono ?_
  rintro e w1 ⟨rfl, b1⟩
  have x0 := (box_end b1).1; have x1 := (box_end b1).2
  have c0 := x0.c0; have c1 := x0.c1
  have X1 := Lib.hid x1; have X0 := Lib.hid x0
  have B1 := Lib.hid (hbx.trans (b1.mono (by simp; omega)))
  have z1 : w.heap.size + 1 < w1.heap.size := x1.lt
  rw [hc]
  clear b1 x0 x1
  go_wp2_with fail
  refine (begin_any ⟨#[]⟩ 0 c (by omega) (by omega) (by exact Nat.zero_le _) _ w1.heap.size (by first | exact Nat.le_refl _ | simp)).mono ?_
  rintro e w2 ⟨p, rfl, hwk, b2⟩
  have B2 := Lib.hid b2
  have wk1 : Work w2 w1.heap.size p [] (([] : List Bool).length : Nat) := hwk
  have x2 := X0.out.below b2; have y2 := Lib.hid (X1.out.below b2)
  have c0 := x2.c0; have c1 := x2.c1
  have WK := Lib.hid wk1
  clear wk1 x2 hwk b2
  go_wp2_with fail
  refine (gather_any p s m Y HY.out (by have := HYL.out; omega) a c (by have := HYL.out; omega) [] [] _ w1.heap.size WK.out ⟨rfl, fun i => by rw [bitAt_nil]; simp⟩ (by simp; omega) B2.out.size).mono ?_
  rintro e w3 ⟨rfl, ⟨L, wk2, pk2⟩, b3, _⟩
  have hLl : L.length ≤ 200000 := by rw [pk2.1]; simp; omega
  have hLe := pk2.eq
  rw [List.nil_append] at hLe
  have WK2 := Lib.hid wk2; have B3 := Lib.hid (B2.out.trans b3); have HLE := Lib.hid hLe
  clear wk2 pk2 b3 hLe c0 c1
  go_wp2_with fail
  refine (done_any p L _ _ w1.heap.size WK2.out hLl B3.out.size).mono ?_
  rintro e w4 ⟨rfl, b4⟩
  have b5 := B3.out.trans b4
  have x5 := X1.out.below b5
  have q0 := x5.c0; have q1 := x5.c1; have p0 := x5.f0; have p1 := x5.f1
  obtain ⟨S, hS⟩ : ∃ S : ByteArray, S = ⟨L.toArray⟩ := ⟨_, rfl⟩
  rw [← hS]
  obtain ⟨K, hK⟩ : ∃ K : Int, K = ((([] : List Bool).length + c : Nat) : Int) := ⟨_, rfl⟩
  rw [← hK]
  have FS2 : Hid (cutS s m a c = S ∧ cutN s m a c = K) := Lib.hid ⟨by rw [FS.out.1, hS, HLE.out]; rfl, by rw [FS.out.2.1, hK]; simp⟩
  have x6 := x5.set S K
  have z0 := Lib.hid x6.c0; have z1' := Lib.hid x6.c1
  have b6 := Lib.hid (((B1.out.trans (b5.mono B1.out.size)).setCell (p := ⟨w.heap.size + 1, 0, none⟩) (Nat.le_succ _) (.string S)).setCell (p := ⟨w.heap.size + 1, 1, none⟩) (Nat.le_succ _) (.int .i64 K))
  clear b4 b5 x5 x6 hS hK
  go_wp2_with fail
  refine bodyPost_ret (v := .tuple #[.agg #[.string S, .int .i64 K], .int .i64 0]) (by simp [results, Try.results12, go_sem, z0.out, z1'.out]) rfl ⟨ret_bit FS2.out.1.symm FS2.out.2.symm FS.out.2.2.symm, b6.out⟩
end Go.Proofs.Ytjbbkcnfilnmcaa.Bt
