/- The walk of Put. -/
import Derived.Test.YtjbbkcnfilnmcaaDoorBitPutT
namespace Go.Proofs.YtjbbkcnfilnmcaaDoor.Bt
open Go.RowKit

theorem size_small {s : ByteArray} {n : Int} (h : Right (bytes s) n) : s.size ≤ 200000 := by
  have h1 := h.2.2.1
  have h2 := h.2.1
  have h3 := h.1
  rw [bytes_len] at h1
  omega
theorem div_zero_iff (v r : Nat) : v / 2 ^ r = 0 ↔ v < 2 ^ r := by
  constructor
  · intro h
    rcases Nat.lt_or_ge v (2 ^ r) with h1 | h1
    · exact h1
    · have := Nat.div_pos h1 (Nat.two_pow_pos r); omega
  · exact Nat.div_eq_of_lt

set_option maxHeartbeats 4000000 in
theorem put_top (s : ByteArray) (n : Int) (v : Nat) (r : Int) (w : World) (hs : s.size ≤ maxLen) (hv : v < 18446744073709551616) :
    Calls Tryd.prog 5 #[.agg #[.string s, .int .i64 n], .int .u64 v, .int .i64 r] w fun e w' => e = .returned (.tuple #[.agg #[.string (putS s n v r), .int .i64 (putN s n v r)], .int .i64 (putE s n v r)]) ∧ Below w.heap.size w w' := by
  have hbx : Below w.heap.size w ((w.alloc (.cells #[.string s, .int .i64 n] 25)).alloc (.cells #[.string ⟨#[]⟩, .int .i64 0] 25)) := ((Below.refl _ _).alloc (Nat.le_refl _) _).alloc (by simp) _
  rcases chk_cases s n with hc | hc
  case inr =>
    have e1 : putE s n v r = 2 := if_pos (by omega)
    have FS : Hid (putS s n v r = ⟨#[]⟩ ∧ putN s n v r = 0 ∧ putE s n v r = 2) := Lib.hid ⟨by unfold putS; rw [if_neg (by omega), if_pos e1], by unfold putN; rw [if_neg (by omega), if_pos e1], e1⟩
    clear e1
    go_enter Tryd.func5, Tryd.ntmps5
    go_wp2_with fail
    refine (check_any _ _ _ hs).mono ?_
    rintro e w1 ⟨rfl, b1⟩
    have b2 := hbx.trans (b1.mono (by simp; omega))
    have q0 : w1.cell? ⟨w.heap.size + 1, 0, none⟩ = some (.string ⟨#[]⟩) := by rw [b1.cell (by simp)]; simp
    have q1 : w1.cell? ⟨w.heap.size + 1, 1, none⟩ = some (.int .i64 0) := by rw [b1.cell (by simp)]; simp
    have p0 : w1.frozen? ⟨w.heap.size + 1, 0, none⟩ = false := by rw [b1.frozen (by simp)]; simp [go_sem]
    have p1 : w1.frozen? ⟨w.heap.size + 1, 1, none⟩ = false := by rw [b1.frozen (by simp)]; simp [go_sem]
    have c0 : w1.cell? ⟨w.heap.size, 0, none⟩ = some (.string s) := by rw [b1.cell (by simp; omega)]; simp
    have c1 : w1.cell? ⟨w.heap.size, 1, none⟩ = some (.int .i64 n) := by rw [b1.cell (by simp; omega)]; simp
    rw [hc]
    clear b1
    go_wp2_with fail
    have b3 := Lib.hid ((b2.setCell (p := ⟨w.heap.size + 1, 0, none⟩) (Nat.le_succ _) (.string ⟨#[]⟩)).setCell (p := ⟨w.heap.size + 1, 1, none⟩) (Nat.le_succ _) (.int .i64 0))
    refine bodyPost_ret (v := .tuple #[.agg #[.string ⟨#[]⟩, .int .i64 0], .int .i64 2]) (by simp [results, Tryd.results5, go_sem, q0, q1]) rfl ⟨ret_bit FS.out.1.symm FS.out.2.1.symm FS.out.2.2.symm, b3.out⟩
  have hR := chk_zero hc
  have hsm := size_small hR
  obtain ⟨m, rfl⟩ := Int.eq_ofNat_of_zero_le hR.1
  have hm : m ≤ 1048576 := by have := hR.2.1; omega
  by_cases hbad : r < 0 ∨ 64 < r ∨ v / 2 ^ r.toNat ≠ 0
  · have e1 : putE s m v r = 1 := by unfold putE; rw [if_neg (by omega), if_pos hbad]
    have FS : Hid (putS s m v r = s ∧ putN s m v r = m ∧ putE s m v r = 1) := Lib.hid ⟨by unfold putS; rw [if_neg (by omega), if_neg (by omega)], by unfold putN; rw [if_neg (by omega), if_neg (by omega)], e1⟩
    clear e1 hR
    by_cases q1 : r < 0
    · go_enter Tryd.func5, Tryd.ntmps5
      go_wp2_with fail
      refine (check_any _ _ _ hs).mono ?_
      rintro e w1 ⟨rfl, b1⟩
      have b2 := hbx.trans (b1.mono (by simp; omega))
      have q0 : w1.cell? ⟨w.heap.size + 1, 0, none⟩ = some (.string ⟨#[]⟩) := by rw [b1.cell (by simp)]; simp
      have q1 : w1.cell? ⟨w.heap.size + 1, 1, none⟩ = some (.int .i64 0) := by rw [b1.cell (by simp)]; simp
      have p0 : w1.frozen? ⟨w.heap.size + 1, 0, none⟩ = false := by rw [b1.frozen (by simp)]; simp [go_sem]
      have p1 : w1.frozen? ⟨w.heap.size + 1, 1, none⟩ = false := by rw [b1.frozen (by simp)]; simp [go_sem]
      have c0 : w1.cell? ⟨w.heap.size, 0, none⟩ = some (.string s) := by rw [b1.cell (by simp; omega)]; simp
      have c1 : w1.cell? ⟨w.heap.size, 1, none⟩ = some (.int .i64 m) := by rw [b1.cell (by simp; omega)]; simp
      have z1 : w.heap.size + 1 < w1.heap.size := Nat.lt_of_lt_of_le (by simp) b1.size
      rw [hc]
      clear b1
      go_wp2_with fail
      refine (same_any s m _ (by omega)).mono ?_
      rintro e w2 ⟨rfl, b3⟩
      have b4 := b2.trans (b3.mono b2.size)
      have r0 : w2.cell? ⟨w.heap.size + 1, 0, none⟩ = some (.string ⟨#[]⟩) := by rw [b3.cell z1]; exact q0
      have r1 : w2.cell? ⟨w.heap.size + 1, 1, none⟩ = some (.int .i64 0) := by rw [b3.cell z1]; exact q1
      have s0' : w2.frozen? ⟨w.heap.size + 1, 0, none⟩ = false := by rw [b3.frozen z1]; exact p0
      have s1' : w2.frozen? ⟨w.heap.size + 1, 1, none⟩ = false := by rw [b3.frozen z1]; exact p1
      have b5 := Lib.hid ((b4.setCell (p := ⟨w.heap.size + 1, 0, none⟩) (Nat.le_succ _) (.string s)).setCell (p := ⟨w.heap.size + 1, 1, none⟩) (Nat.le_succ _) (.int .i64 m))
      clear b2 b3 b4 q0 q1 p0 p1 c0 c1
      go_wp2_with fail
      refine bodyPost_ret (v := .tuple #[.agg #[.string s, .int .i64 m], .int .i64 1]) (by simp [results, Tryd.results5, go_sem, r0, r1]) rfl ⟨ret_bit FS.out.1.symm FS.out.2.1.symm FS.out.2.2.symm, b5.out⟩
    by_cases q2 : 64 < r
    · go_enter Tryd.func5, Tryd.ntmps5
      go_wp2_with fail
      refine (check_any _ _ _ hs).mono ?_
      rintro e w1 ⟨rfl, b1⟩
      have b2 := hbx.trans (b1.mono (by simp; omega))
      have q0 : w1.cell? ⟨w.heap.size + 1, 0, none⟩ = some (.string ⟨#[]⟩) := by rw [b1.cell (by simp)]; simp
      have q1 : w1.cell? ⟨w.heap.size + 1, 1, none⟩ = some (.int .i64 0) := by rw [b1.cell (by simp)]; simp
      have p0 : w1.frozen? ⟨w.heap.size + 1, 0, none⟩ = false := by rw [b1.frozen (by simp)]; simp [go_sem]
      have p1 : w1.frozen? ⟨w.heap.size + 1, 1, none⟩ = false := by rw [b1.frozen (by simp)]; simp [go_sem]
      have c0 : w1.cell? ⟨w.heap.size, 0, none⟩ = some (.string s) := by rw [b1.cell (by simp; omega)]; simp
      have c1 : w1.cell? ⟨w.heap.size, 1, none⟩ = some (.int .i64 m) := by rw [b1.cell (by simp; omega)]; simp
      have z1 : w.heap.size + 1 < w1.heap.size := Nat.lt_of_lt_of_le (by simp) b1.size
      rw [hc]
      clear b1
      go_wp2_with fail
      refine (same_any s m _ (by omega)).mono ?_
      rintro e w2 ⟨rfl, b3⟩
      have b4 := b2.trans (b3.mono b2.size)
      have r0 : w2.cell? ⟨w.heap.size + 1, 0, none⟩ = some (.string ⟨#[]⟩) := by rw [b3.cell z1]; exact q0
      have r1 : w2.cell? ⟨w.heap.size + 1, 1, none⟩ = some (.int .i64 0) := by rw [b3.cell z1]; exact q1
      have s0' : w2.frozen? ⟨w.heap.size + 1, 0, none⟩ = false := by rw [b3.frozen z1]; exact p0
      have s1' : w2.frozen? ⟨w.heap.size + 1, 1, none⟩ = false := by rw [b3.frozen z1]; exact p1
      have b5 := Lib.hid ((b4.setCell (p := ⟨w.heap.size + 1, 0, none⟩) (Nat.le_succ _) (.string s)).setCell (p := ⟨w.heap.size + 1, 1, none⟩) (Nat.le_succ _) (.int .i64 m))
      clear b2 b3 b4 q0 q1 p0 p1 c0 c1
      go_wp2_with fail
      refine bodyPost_ret (v := .tuple #[.agg #[.string s, .int .i64 m], .int .i64 1]) (by simp [results, Tryd.results5, go_sem, r0, r1]) rfl ⟨ret_bit FS.out.1.symm FS.out.2.1.symm FS.out.2.2.symm, b5.out⟩
    obtain ⟨r, rfl⟩ := Int.eq_ofNat_of_zero_le (show 0 ≤ r by omega)
    rw [Int.toNat_natCast] at hbad
    have q3 : ((v : Int) / 2 ^ r != 0) = true := by
      have e : (v : Int) / 2 ^ r = ((v / 2 ^ r : Nat) : Int) := by simp
      rw [bne_iff_ne, e]; omega
    clear hbad
    go_enter Tryd.func5, Tryd.ntmps5
    go_wp2_with fail
    refine (check_any _ _ _ hs).mono ?_
    rintro e w1 ⟨rfl, b1⟩
    have b2 := hbx.trans (b1.mono (by simp; omega))
    have q0 : w1.cell? ⟨w.heap.size + 1, 0, none⟩ = some (.string ⟨#[]⟩) := by rw [b1.cell (by simp)]; simp
    have q1 : w1.cell? ⟨w.heap.size + 1, 1, none⟩ = some (.int .i64 0) := by rw [b1.cell (by simp)]; simp
    have p0 : w1.frozen? ⟨w.heap.size + 1, 0, none⟩ = false := by rw [b1.frozen (by simp)]; simp [go_sem]
    have p1 : w1.frozen? ⟨w.heap.size + 1, 1, none⟩ = false := by rw [b1.frozen (by simp)]; simp [go_sem]
    have c0 : w1.cell? ⟨w.heap.size, 0, none⟩ = some (.string s) := by rw [b1.cell (by simp; omega)]; simp
    have c1 : w1.cell? ⟨w.heap.size, 1, none⟩ = some (.int .i64 m) := by rw [b1.cell (by simp; omega)]; simp
    have z1 : w.heap.size + 1 < w1.heap.size := Nat.lt_of_lt_of_le (by simp) b1.size
    rw [hc]
    clear b1
    go_wp2_with fail
    refine (same_any s m _ (by omega)).mono ?_
    rintro e w2 ⟨rfl, b3⟩
    have b4 := b2.trans (b3.mono b2.size)
    have r0 : w2.cell? ⟨w.heap.size + 1, 0, none⟩ = some (.string ⟨#[]⟩) := by rw [b3.cell z1]; exact q0
    have r1 : w2.cell? ⟨w.heap.size + 1, 1, none⟩ = some (.int .i64 0) := by rw [b3.cell z1]; exact q1
    have s0' : w2.frozen? ⟨w.heap.size + 1, 0, none⟩ = false := by rw [b3.frozen z1]; exact p0
    have s1' : w2.frozen? ⟨w.heap.size + 1, 1, none⟩ = false := by rw [b3.frozen z1]; exact p1
    have b5 := Lib.hid ((b4.setCell (p := ⟨w.heap.size + 1, 0, none⟩) (Nat.le_succ _) (.string s)).setCell (p := ⟨w.heap.size + 1, 1, none⟩) (Nat.le_succ _) (.int .i64 m))
    clear b2 b3 b4 q0 q1 p0 p1 c0 c1
    go_wp2_with fail
    refine bodyPost_ret (v := .tuple #[.agg #[.string s, .int .i64 m], .int .i64 1]) (by simp [results, Tryd.results5, go_sem, r0, r1]) rfl ⟨ret_bit FS.out.1.symm FS.out.2.1.symm FS.out.2.2.symm, b5.out⟩
  obtain ⟨r, rfl⟩ := Int.eq_ofNat_of_zero_le (show 0 ≤ r by omega)
  rw [Int.toNat_natCast] at hbad
  have hr : r ≤ 64 := by omega
  have hv0 : v / 2 ^ r = 0 := by omega
  have q3 : ((v : Int) / 2 ^ r != 0) = false := by
    have e : (v : Int) / 2 ^ r = ((v / 2 ^ r : Nat) : Int) := by simp
    rw [bne_eq_false_iff_eq, e, hv0]; rfl
  by_cases q4 : 1048576 < (m : Int) + (r : Int)
  · have e1 : putE s m v r = 8 := by unfold putE; rw [if_neg (by omega), if_neg (by rw [Int.toNat_natCast]; exact hbad), if_pos q4]
    have FS : Hid (putS s m v r = s ∧ putN s m v r = m ∧ putE s m v r = 8) := Lib.hid ⟨by unfold putS; rw [if_neg (by omega), if_neg (by omega)], by unfold putN; rw [if_neg (by omega), if_neg (by omega)], e1⟩
    clear e1 hR hbad hv0
    go_enter Tryd.func5, Tryd.ntmps5
    go_wp2_with fail
    refine (check_any _ _ _ hs).mono ?_
    rintro e w1 ⟨rfl, b1⟩
    have b2 := hbx.trans (b1.mono (by simp; omega))
    have q0 : w1.cell? ⟨w.heap.size + 1, 0, none⟩ = some (.string ⟨#[]⟩) := by rw [b1.cell (by simp)]; simp
    have q1 : w1.cell? ⟨w.heap.size + 1, 1, none⟩ = some (.int .i64 0) := by rw [b1.cell (by simp)]; simp
    have p0 : w1.frozen? ⟨w.heap.size + 1, 0, none⟩ = false := by rw [b1.frozen (by simp)]; simp [go_sem]
    have p1 : w1.frozen? ⟨w.heap.size + 1, 1, none⟩ = false := by rw [b1.frozen (by simp)]; simp [go_sem]
    have c0 : w1.cell? ⟨w.heap.size, 0, none⟩ = some (.string s) := by rw [b1.cell (by simp; omega)]; simp
    have c1 : w1.cell? ⟨w.heap.size, 1, none⟩ = some (.int .i64 m) := by rw [b1.cell (by simp; omega)]; simp
    have z1 : w.heap.size + 1 < w1.heap.size := Nat.lt_of_lt_of_le (by simp) b1.size
    rw [hc]
    clear b1
    go_wp2_with fail
    refine (same_any s m _ (by omega)).mono ?_
    rintro e w2 ⟨rfl, b3⟩
    have b4 := b2.trans (b3.mono b2.size)
    have r0 : w2.cell? ⟨w.heap.size + 1, 0, none⟩ = some (.string ⟨#[]⟩) := by rw [b3.cell z1]; exact q0
    have r1 : w2.cell? ⟨w.heap.size + 1, 1, none⟩ = some (.int .i64 0) := by rw [b3.cell z1]; exact q1
    have s0' : w2.frozen? ⟨w.heap.size + 1, 0, none⟩ = false := by rw [b3.frozen z1]; exact p0
    have s1' : w2.frozen? ⟨w.heap.size + 1, 1, none⟩ = false := by rw [b3.frozen z1]; exact p1
    have b5 := Lib.hid ((b4.setCell (p := ⟨w.heap.size + 1, 0, none⟩) (Nat.le_succ _) (.string s)).setCell (p := ⟨w.heap.size + 1, 1, none⟩) (Nat.le_succ _) (.int .i64 m))
    clear b2 b3 b4 q0 q1 p0 p1 c0 c1
    go_wp2_with fail
    refine bodyPost_ret (v := .tuple #[.agg #[.string s, .int .i64 m], .int .i64 8]) (by simp [results, Tryd.results5, go_sem, r0, r1]) rfl ⟨ret_bit FS.out.1.symm FS.out.2.1.symm FS.out.2.2.symm, b5.out⟩
  have e1 : putE s m v r = 0 := by unfold putE; rw [if_neg (by omega), if_neg (by rw [Int.toNat_natCast]; exact hbad), if_neg q4]
  have FS : Hid (putS s m v r = packS (bl (bytes s) m ++ nbits v r) ∧ putN s m v r = m + r ∧ putE s m v r = 0) := Lib.hid ⟨by unfold putS; rw [if_pos e1, Int.toNat_natCast, Int.toNat_natCast], by unfold putN; rw [if_pos e1], e1⟩
  have hp := hR.packs
  rw [Int.toNat_natCast] at hp
  have hl := bl_length (bytes s) m
  have hsz : s.size = (m + 7) / 8 := by have := hR.2.2.1; rw [bytes_len] at this; simpa using this
  generalize bl (bytes s) m = X at hp hl FS
  have HP := Lib.hid hp
  have HL := Lib.hid hl
  have HSZ := Lib.hid hsz
  clear e1 hbad hR hp hl hsz hv0
  go_enter Tryd.func5, Tryd.ntmps5
  go_wp2_with fail
  refine (check_any _ _ _ hs).mono ?_
  rintro e w1 ⟨rfl, b1⟩
  have b2 := hbx.trans (b1.mono (by simp; omega))
  have q0 : w1.cell? ⟨w.heap.size + 1, 0, none⟩ = some (.string ⟨#[]⟩) := by rw [b1.cell (by simp)]; simp
  have q1 : w1.cell? ⟨w.heap.size + 1, 1, none⟩ = some (.int .i64 0) := by rw [b1.cell (by simp)]; simp
  have p0 : w1.frozen? ⟨w.heap.size + 1, 0, none⟩ = false := by rw [b1.frozen (by simp)]; simp [go_sem]
  have p1 : w1.frozen? ⟨w.heap.size + 1, 1, none⟩ = false := by rw [b1.frozen (by simp)]; simp [go_sem]
  have c0 : w1.cell? ⟨w.heap.size, 0, none⟩ = some (.string s) := by rw [b1.cell (by simp; omega)]; simp
  have c1 : w1.cell? ⟨w.heap.size, 1, none⟩ = some (.int .i64 m) := by rw [b1.cell (by simp; omega)]; simp
  have z1 : w.heap.size + 1 < w1.heap.size := Nat.lt_of_lt_of_le (by simp) b1.size
  rw [hc]
  clear b1
  go_wp2_with fail
  have HB2 := Lib.hid b2
  refine (begin_any s m ((m : Int) + (r : Int)) (by omega) (by omega) (by have := HSZ.out; omega) _ w1.heap.size (Nat.le_refl _)).mono ?_
  rintro e w2 ⟨p, rfl, hwk, b3⟩
  have HWK := Lib.hid hwk; have HB3 := Lib.hid b3
  clear hwk b3 b2 c0 c1
  go_wp2_with fail
  refine (put_any p v r (bytes s) X w2 w1.heap.size (by rw [HL.out]; exact HWK.out) HP.out hr (by rw [HL.out]; omega) hv (HB3.out.size)).mono ?_
  rintro e w3 ⟨rfl, ⟨L', hwk2, hpk2⟩, b4, _⟩
  have hL' : L'.length ≤ 200000 := by rw [hpk2.1, List.length_append, HL.out, nbits_length]; omega
  have hpe := hpk2.eq
  have HWK2 := Lib.hid hwk2; have HB4 := Lib.hid (HB3.out.trans b4); have HPE := Lib.hid hpe
  clear hwk2 hpk2 b4 hpe
  go_wp2_with fail
  refine (done_any p L' _ w3 w1.heap.size HWK2.out hL' HB4.out.size).mono ?_
  rintro e w4 ⟨rfl, b5⟩
  have b6 := HB4.out.trans b5
  have r0 : w4.cell? ⟨w.heap.size + 1, 0, none⟩ = some (.string ⟨#[]⟩) := by rw [b6.cell z1]; exact q0
  have r1 : w4.cell? ⟨w.heap.size + 1, 1, none⟩ = some (.int .i64 0) := by rw [b6.cell z1]; exact q1
  have s0' : w4.frozen? ⟨w.heap.size + 1, 0, none⟩ = false := by rw [b6.frozen z1]; exact p0
  have s1' : w4.frozen? ⟨w.heap.size + 1, 1, none⟩ = false := by rw [b6.frozen z1]; exact p1
  have b7 := HB2.out.trans (b6.mono HB2.out.size)
  obtain ⟨S, hS⟩ : ∃ S : ByteArray, S = ⟨L'.toArray⟩ := ⟨_, rfl⟩
  rw [← hS]
  obtain ⟨K, hK⟩ : ∃ K : Int, K = ((X.length + r : Nat) : Int) := ⟨_, rfl⟩
  rw [← hK]
  have FS2 : Hid (putS s m v r = S ∧ putN s m v r = K) := Lib.hid ⟨by rw [FS.out.1, hS, HPE.out]; rfl, by rw [FS.out.2.1, hK, HL.out]; omega⟩
  have b8 := Lib.hid ((b7.setCell (p := ⟨w.heap.size + 1, 0, none⟩) (Nat.le_succ _) (.string S)).setCell (p := ⟨w.heap.size + 1, 1, none⟩) (Nat.le_succ _) (.int .i64 K))
  clear b5 b6 b7 q0 q1 p0 p1 hS hK
  go_wp2_with fail
  refine bodyPost_ret (v := .tuple #[.agg #[.string S, .int .i64 K], .int .i64 0]) (by simp [results, Tryd.results5, go_sem, r0, r1]) rfl ⟨ret_bit FS2.out.1.symm FS2.out.2.symm FS.out.2.2.symm, b8.out⟩
end Go.Proofs.YtjbbkcnfilnmcaaDoor.Bt
