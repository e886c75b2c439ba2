/- The walk of Turn. -/
import Derived.Test.YtjbbkcnfilnmcaaDoorBitTurnW
import Derived.Test.YtjbbkcnfilnmcaaDoorBitPutR
namespace Go.Proofs.YtjbbkcnfilnmcaaDoor.Bt
open Go.RowKit

noncomputable def turnE (s : ByteArray) (n i : Int) : Int := if chk s n ≠ 0 then 2 else if i < 0 ∨ n ≤ i then 1 else 0
noncomputable def turnS (s : ByteArray) (n i : Int) : ByteArray := if turnE s n i = 0 then packS (flip (bl (bytes s) n.toNat) i.toNat) else if turnE s n i = 2 then ⟨#[]⟩ else s
noncomputable def turnN (s : ByteArray) (n i : Int) : Int := if turnE s n i = 2 then 0 else n

set_option maxHeartbeats 8000000 in
theorem turn_top (s : ByteArray) (n i : Int) (w : World) (hs : s.size ≤ maxLen) :
    Calls Tryd.prog 9 #[.agg #[.string s, .int .i64 n], .int .i64 i] w fun e w' => e = .returned (.tuple #[.agg #[.string (turnS s n i), .int .i64 (turnN s n i)], .int .i64 (turnE s n i)]) ∧ Below w.heap.size w w' := by
  have hbx : Below w.heap.size w ((w.alloc (.cells #[.string s, .int .i64 n] 25)).alloc (.cells #[.string ⟨#[]⟩, .int .i64 0] 25)) := ((Below.refl _ _).alloc (Nat.le_refl _) _).alloc (by simp) _
  rcases chk_cases s n with hc | hc
  case inr =>
    have e1 : turnE s n i = 2 := if_pos (by omega)
    have FS : Hid (turnS s n i = ⟨#[]⟩ ∧ turnN s n i = 0 ∧ turnE s n i = 2) := Lib.hid ⟨by unfold turnS; rw [if_neg (by omega), if_pos e1], if_pos e1, e1⟩
    clear e1
    go_enter Tryd.func9, Tryd.ntmps9
    go_wp2_with fail
    refine (check_any _ _ _ hs).mono ?_
    rintro e w1 ⟨rfl, b1⟩
    have x0 := (box_end b1).1; have x1 := (box_end b1).2
    have c0 := x0.c0; have c1 := x0.c1
    have b2 := hbx.trans (b1.mono (by simp; omega))
    rw [hc]
    have q0 := x1.c0; have q1 := x1.c1; have p0 := x1.f0; have p1 := x1.f1
    have x2 := x1.set ⟨#[]⟩ 0
    have b3 := Lib.hid ((b2.setCell (p := ⟨w.heap.size + 1, 0, none⟩) (Nat.le_succ _) (.string ⟨#[]⟩)).setCell (p := ⟨w.heap.size + 1, 1, none⟩) (Nat.le_succ _) (.int .i64 0))
    have z0 := Lib.hid x2.c0; have z1 := Lib.hid x2.c1
    clear b1 b2 x0 x1 x2
    go_wp2_with fail
    refine bodyPost_ret (v := .tuple #[.agg #[.string ⟨#[]⟩, .int .i64 0], .int .i64 2]) (by simp [results, Tryd.results9, go_sem, z0.out, z1.out]) rfl ⟨ret_bit FS.out.1.symm FS.out.2.1.symm FS.out.2.2.symm, b3.out⟩
  have hR := chk_zero hc
  have hsm := size_small hR
  have hpk := hR.packs
  obtain ⟨m, rfl⟩ := Int.eq_ofNat_of_zero_le hR.1
  have hm : m ≤ 1048576 := by have := hR.2.1; omega
  by_cases hbad : i < 0 ∨ (m : Int) ≤ i
  · have e1 : turnE s m i = 1 := by unfold turnE; rw [if_neg (by omega), if_pos hbad]
    have FS : Hid (turnS s m i = s ∧ turnN s m i = m ∧ turnE s m i = 1) := Lib.hid ⟨by unfold turnS; rw [if_neg (by omega), if_neg (by omega)], if_neg (by omega), e1⟩
    clear e1 hR hpk
    by_cases q1 : i < 0
    · go_enter Tryd.func9, Tryd.ntmps9
      go_wp2_with fail
      refine (check_any _ _ _ hs).mono ?_
      rintro e w1 ⟨rfl, b1⟩
      have x0 := (box_end b1).1; have x1 := (box_end b1).2
      have c0 := x0.c0; have c1 := x0.c1
      have b2 := hbx.trans (b1.mono (by simp; omega))
      rw [hc]
      have X1 := Lib.hid x1; have B2 := Lib.hid b2
      clear b1 b2 x0 x1
      go_wp2_with fail
      refine (same_any s m _ (by omega)).mono ?_
      rintro e w2 ⟨rfl, b3⟩
      have b2 := B2.out.trans (b3.mono B2.out.size)
      have x1 := X1.out.below b3
      clear b3 X1 B2 c0 c1
      have b1 := b2
      have x0 := x1
      have q0 := x1.c0; have q1 := x1.c1; have p0 := x1.f0; have p1 := x1.f1
      have x2 := x1.set s m
      have b3 := Lib.hid ((b2.setCell (p := ⟨w.heap.size + 1, 0, none⟩) (Nat.le_succ _) (.string s)).setCell (p := ⟨w.heap.size + 1, 1, none⟩) (Nat.le_succ _) (.int .i64 m))
      have z0 := Lib.hid x2.c0; have z1 := Lib.hid x2.c1
      clear b1 b2 x0 x1 x2
      go_wp2_with fail
      refine bodyPost_ret (v := .tuple #[.agg #[.string s, .int .i64 m], .int .i64 1]) (by simp [results, Tryd.results9, go_sem, z0.out, z1.out]) rfl ⟨ret_bit FS.out.1.symm FS.out.2.1.symm FS.out.2.2.symm, b3.out⟩
    have q3 : (m : Int) ≤ i := by omega
    clear hbad
    go_enter Tryd.func9, Tryd.ntmps9
    go_wp2_with fail
    refine (check_any _ _ _ hs).mono ?_
    rintro e w1 ⟨rfl, b1⟩
    have x0 := (box_end b1).1; have x1 := (box_end b1).2
    have c0 := x0.c0; have c1 := x0.c1
    have b2 := hbx.trans (b1.mono (by simp; omega))
    rw [hc]
    have X1 := Lib.hid x1; have B2 := Lib.hid b2
    clear b1 b2 x0 x1
    go_wp2_with fail
    refine (same_any s m _ (by omega)).mono ?_
    rintro e w2 ⟨rfl, b3⟩
    have b2 := B2.out.trans (b3.mono B2.out.size)
    have x1 := X1.out.below b3
    clear b3 X1 B2 c0 c1
    have b1 := b2
    have x0 := x1
    have q0 := x1.c0; have q1 := x1.c1; have p0 := x1.f0; have p1 := x1.f1
    have x2 := x1.set s m
    have b3 := Lib.hid ((b2.setCell (p := ⟨w.heap.size + 1, 0, none⟩) (Nat.le_succ _) (.string s)).setCell (p := ⟨w.heap.size + 1, 1, none⟩) (Nat.le_succ _) (.int .i64 m))
    have z0 := Lib.hid x2.c0; have z1 := Lib.hid x2.c1
    clear b1 b2 x0 x1 x2
    go_wp2_with fail
    refine bodyPost_ret (v := .tuple #[.agg #[.string s, .int .i64 m], .int .i64 1]) (by simp [results, Tryd.results9, go_sem, z0.out, z1.out]) rfl ⟨ret_bit FS.out.1.symm FS.out.2.1.symm FS.out.2.2.symm, b3.out⟩
  obtain ⟨i, rfl⟩ := Int.eq_ofNat_of_zero_le (show 0 ≤ i by omega)
  have him : i < m := by omega
  have e1 : turnE s m i = 0 := by unfold turnE; rw [if_neg (by omega), if_neg hbad]
  have FS : Hid (turnS s m i = packS (flip (bl (bytes s) m) i) ∧ turnN s m i = m ∧ turnE s m i = 0) := Lib.hid ⟨by unfold turnS; rw [if_pos e1]; simp, if_neg (by omega), e1⟩
  rw [Int.toNat_natCast] at hpk
  have hl := bl_length (bytes s) m
  have hsz : s.size = (m + 7) / 8 := by have := hR.2.2.1; rw [bytes_len] at this; simpa using this
  generalize bl (bytes s) m = Y at hpk hl FS
  have HY := Lib.hid hpk; have HYL := Lib.hid hl; have HSZ := Lib.hid hsz
  clear e1 hR hpk hl hbad hsz
  go_enter Tryd.func9, Tryd.ntmps9
  go_wp2_with fail
  refine (check_any _ _ _ hs).mono ?_
  rintro e w1 ⟨rfl, b1⟩
  have x0 := (box_end b1).1; have x1 := (box_end b1).2
  have c0 := x0.c0; have c1 := x0.c1
  have X1 := Lib.hid x1
  have B1 := Lib.hid (hbx.trans (b1.mono (by simp; omega)))
  rw [hc]
  clear b1 x0 x1
  go_wp2_with fail
  refine (begin_any s m m (by omega) (by omega) (by have := HSZ.out; omega) _ w1.heap.size (by first | exact Nat.le_refl _ | simp)).mono ?_
  rintro e w2 ⟨p, rfl, hwk, b2⟩
  have B2 := Lib.hid b2
  have WK := Lib.hid hwk
  clear hwk b2 c0 c1
  go_wp2_with fail
  refine (turn_any p i _ Y m _ w1.heap.size WK.out HY.out (by have := HYL.out; omega) (by have := HYL.out; omega)).mono ?_
  rintro e w3 ⟨rfl, ⟨L, wk2, pk2⟩, b3⟩
  have hLl : L.length ≤ 200000 := by rw [pk2.1, flip_length, HYL.out]; omega
  have hLe := pk2.eq
  have WK2 := Lib.hid wk2; have B3 := Lib.hid (B2.out.trans b3); have HLE := Lib.hid hLe
  clear wk2 pk2 b3 hLe
  go_wp2_with fail
  refine (done_any p L _ _ w1.heap.size WK2.out hLl B3.out.size).mono ?_
  rintro e w4 ⟨rfl, b4⟩
  have b5 := B3.out.trans b4
  have x5 := X1.out.below b5
  have q0 := x5.c0; have q1 := x5.c1; have p0 := x5.f0; have p1 := x5.f1
  obtain ⟨S, hS⟩ : ∃ S : ByteArray, S = ⟨L.toArray⟩ := ⟨_, rfl⟩
  rw [← hS]
  have FS2 : Hid (turnS s m i = S) := Lib.hid (by rw [FS.out.1, hS, HLE.out]; rfl)
  have x6 := x5.set S m
  have z0 := Lib.hid x6.c0; have z1' := Lib.hid x6.c1
  have b6 := Lib.hid (((B1.out.trans (b5.mono B1.out.size)).setCell (p := ⟨w.heap.size + 1, 0, none⟩) (Nat.le_succ _) (.string S)).setCell (p := ⟨w.heap.size + 1, 1, none⟩) (Nat.le_succ _) (.int .i64 m))
  clear b4 b5 x5 x6 hS
  go_wp2_with fail
  refine bodyPost_ret (v := .tuple #[.agg #[.string S, .int .i64 m], .int .i64 0]) (by simp [results, Tryd.results9, go_sem, z0.out, z1'.out]) rfl ⟨ret_bit FS2.out.symm FS.out.2.1.symm FS.out.2.2.symm, b6.out⟩
end Go.Proofs.YtjbbkcnfilnmcaaDoor.Bt
