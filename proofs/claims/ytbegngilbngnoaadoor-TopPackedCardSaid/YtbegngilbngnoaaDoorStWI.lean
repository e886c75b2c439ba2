/- Ranges exchanged and turned by the library, at numbers. -/
import Derived.Test.YtbegngilbngnoaaDoorStM
import Derived.Shelf.SlSortCmp.Kit1
import Derived.Deep.LoopGhost
import Derived.Shelf.SlicesQ.Reverse
import Derived.Lib.Hide
namespace Go.Proofs.YtbegngilbngnoaaDoor.St
open Go.Shelf Go.RowKit Go.Lib Go.Sort Go.Proofs

set_option maxHeartbeats 16000000 in
set_option maxRecDepth 1000000 in
theorem swapRange_I (enc : Nat → Value) (g : Nat) (cb : Array Value) (blk off cap sz : Nat) (d0 d : Array Nat) (w0 w : World) (R : Row1 enc w0 blk off d0) (hs0 : d0.size = sz) (hs : d.size = sz) (hsz : sz < 1000000000) (S : SW enc w0 blk off d w) (a b n : Nat) (hab : a + n ≤ b) (hb : b + n ≤ sz) :
    Calls Tryd.prog 87 #[.slice (some ⟨blk, off, none⟩) sz cap, .int .i64 a, .int .i64 b, .int .i64 n, .func (.func g) #[] cb] w fun e w' => e = .returned (.tuple #[]) ∧ SW enc w0 blk off (swapR d a b n) w' := by
  have mixed : Tryd.prog.follows Departure.mixedOrders = true := by kernel_rfl
  have hcl0 := R.hO.cells
  simp only [Value.cells] at hcl0
  have hst := R.hO.store Tryd.prog
  have S0 : Aside (SW enc w0 blk off d w) := S
  clear S
  have HS := Lib.hid hs
  clear hs
  go_enter Tryd.func87, Tryd.ntmps87
  go_wp2_with fail
  go_loopg [10] n (fun gh vi wr => ∃ (i : Nat) (dk : Array Nat), vi = .int .i64 i ∧ i ≤ n ∧ n - i ≤ gh ∧ dk.size = sz ∧ Hid (dk = swapR d a b i) ∧ Aside (SW enc w0 blk off dk wr))
  case atStart => exact ⟨0, d, rfl, Nat.zero_le _, Nat.le_refl _, HS.out, Lib.hid (swapR_zero d a b).symm, S0⟩
  case round =>
    clear S0
    obtain ⟨i, dk, rfl, hin, hgh, hsk, HD, S1⟩ := hrel
    by_cases hlt : i < n
    · have iz : (i : Int) < (n : Int) := by omega
      obtain ⟨p, hp⟩ : ∃ p, p = a + i := ⟨_, rfl⟩
      obtain ⟨q, hq⟩ : ∃ q, q = b + i := ⟨_, rfl⟩
      have ep : (a : Int) + (i : Int) = (p : Int) := by omega
      have eq : (b : Int) + (i : Int) = (q : Int) := by omega
      have wp : IntKind.i64.wrap (p : Int) = (p : Int) := by rw [IntKind.wrap_i64]; omega
      have wq : IntKind.i64.wrap (q : Int) = (q : Int) := by rw [IntKind.wrap_i64]; omega
      have HN : Hid (swp dk p q = swapR d a b (i + 1)) := Lib.hid (by rw [HD.out, hp, hq]; exact swapR_succ (by omega) (by rw [HS.out]; omega))
      have hpz : p < sz := by omega
      have hqz : q < sz := by omega
      clear hp hq
      go_wp2_with fail
      have p0a0 : (0 : Int) ≤ (p : Int) := by omega
      have p1a0 : (p : Int) < (sz : Int) := by omega
      have p0b0 : (0 : Int) ≤ (q : Int) := by omega
      have p1b0 : (q : Int) < (sz : Int) := by omega
      obtain ⟨x0, hx0⟩ : ∃ x, x = dk[p]! := ⟨_, rfl⟩
      obtain ⟨y0, hy0⟩ : ∃ x, x = dk[q]! := ⟨_, rfl⟩
      have S2 : Aside (SW enc w0 blk off (swp dk p q) ((wr.setCell ⟨blk, off + p, none⟩ (enc y0)).setCell ⟨blk, off + q, none⟩ (enc x0)).drew) := by rw [hx0, hy0]; exact S1.out.swapped R p q (by omega) (by omega)
      have ca0 := S1.out.c1 R (by omega) p (by omega)
      have cb0 := S1.out.c1 R (by omega) q (by omega)
      have fa0 := S1.out.f1 R (by omega) p (by omega)
      have fb0 := S1.out.f1 R (by omega) q (by omega)
      obtain ⟨u0, cc0⟩ := S1.out.c2 R (by omega) p q (by omega) (by omega) (enc y0)
      rw [← hx0] at ca0
      rw [← hy0] at cb0
      clear hx0 hy0 S1
      go_wp2_with fail
      go_big_region_o
      clear ca0 cb0 cc0 fa0 fb0
      generalize ((wr.setCell ⟨blk, off + p, none⟩ (enc y0)).setCell ⟨blk, off + q, none⟩ (enc x0)).drew = w2 at S2 ⊢
      go_wp2_with fail
      go_roundg (n - (i + 1))
      case measure => omega
      case rel => exact ⟨i + 1, swp dk p q, by go_num, by omega, Nat.le_refl _, by rw [size_swp]; exact hsk, HN, S2⟩
    · obtain rfl : i = n := by omega
      have iz : ¬ (i : Int) < (i : Int) := by omega
      have F : Aside (SW enc w0 blk off (swapR d a b i) wr) := by rw [← HD.out]; exact S1.out
      clear S1
      go_wp2_with fail
      go_end0
      exact ⟨rfl, F.out⟩
set_option maxHeartbeats 16000000 in
set_option maxRecDepth 1000000 in
theorem rotate_I (enc : Nat → Value) (g : Nat) (cb : Array Value) (blk off cap sz : Nat) (d0 d : Array Nat) (w0 w : World) (R : Row1 enc w0 blk off d0) (hs0 : d0.size = sz) (hs : d.size = sz) (hsz : sz < 1000000000) (S : SW enc w0 blk off d w) (a m b : Nat) (ham : a < m) (hmb : m < b) (hb : b ≤ sz) :
    Calls Tryd.prog 83 #[.slice (some ⟨blk, off, none⟩) sz cap, .int .i64 a, .int .i64 m, .int .i64 b, .func (.func g) #[] cb] w fun e w' => e = .returned (.tuple #[]) ∧ SW enc w0 blk off (Rot d a m b) w' := by
  have S0 : Aside (SW enc w0 blk off d w) := S
  clear S
  have HS := Lib.hid hs
  clear hs
  have CS : Hid (∀ (dk : Array Nat) (W : World) (a b n : Nat), dk.size = sz → SW enc w0 blk off dk W → a + n ≤ b → b + n ≤ sz → Calls Tryd.prog 87 #[.slice (some ⟨blk, off, none⟩) sz cap, .int .i64 a, .int .i64 b, .int .i64 n, .func (.func g) #[] cb] W fun e w' => e = .returned (.tuple #[]) ∧ SW enc w0 blk off (swapR dk a b n) w') := Lib.hid (fun dk W a b n h1 h2 h3 h4 => swapRange_I enc g cb blk off cap sz d0 dk w0 W R hs0 h1 hsz h2 a b n h3 h4)
  obtain ⟨i0, hi0⟩ : ∃ i, i = m - a := ⟨_, rfl⟩
  obtain ⟨j0, hj0⟩ : ∃ j, j = b - m := ⟨_, rfl⟩
  have z1 : (m : Int) - (a : Int) = (i0 : Int) := by omega
  have z2 : (b : Int) - (m : Int) = (j0 : Int) := by omega
  have z3 : IntKind.i64.wrap (i0 : Int) = (i0 : Int) := by rw [IntKind.wrap_i64]; omega
  have z4 : IntKind.i64.wrap (j0 : Int) = (j0 : Int) := by rw [IntKind.wrap_i64]; omega
  have HST : Hid (Rot d (m - i0) m (m + j0) = Rot d a m b) := Lib.hid (by rw [hi0, hj0]; congr 1 <;> omega)
  have k1 : i0 ≤ m := by omega
  have k2 : m + j0 ≤ sz := by omega
  have k3 : 0 < i0 ∧ 0 < j0 := by omega
  clear hi0 hj0
  go_enter Tryd.func83, Tryd.ntmps83
  go_wp2_with fail
  go_loopg [10, 11] (i0 + j0) (fun gh vi vj wr => ∃ (i j : Nat) (dk : Array Nat), vi = .int .i64 i ∧ vj = .int .i64 j ∧ i ≤ i0 ∧ j ≤ j0 ∧ i + j ≤ gh ∧ 0 < i ∧ 0 < j ∧ dk.size = sz ∧ Hid (Rot dk (m - i) m (m + j) = Rot d a m b) ∧ Aside (SW enc w0 blk off dk wr))
  case atStart => exact ⟨i0, j0, d, rfl, rfl, Nat.le_refl _, Nat.le_refl _, Nat.le_refl _, k3.1, k3.2, HS.out, HST, S0⟩
  case round =>
    clear S0
    obtain ⟨i, j, dk, rfl, rfl, hi, hj, hgh, hi1, hj1, hsk, HD, S1⟩ := hrel
    obtain ⟨p, hp⟩ : ∃ p, p = m - i := ⟨_, rfl⟩
    have ep : (m : Int) - (i : Int) = (p : Int) := by omega
    have wp : IntKind.i64.wrap (p : Int) = (p : Int) := by rw [IntKind.wrap_i64]; omega
    have HP := Lib.hid hp
    by_cases heq : i = j
    · subst heq
      have t1 : ((i : Int) == (i : Int)) = true := by simp
      have F : Hid (swapR dk p m i = Rot d a m b) := Lib.hid (by rw [← HD.out, hp]; exact rot_eq (by omega))
      clear hp
      go_wp2_with fail
      refine (CS.out dk wr p m i hsk S1.out (by have := HP.out; omega) (by omega)).mono ?_
      rintro e w2 ⟨rfl, h2⟩
      have S2 : Aside (SW enc w0 blk off (Rot d a m b) w2) := by rw [← F.out]; exact h2
      clear h2 S1
      go_wp2_with fail
      go_end0
      exact ⟨rfl, S2.out⟩
    · have t1 : ((i : Int) == (j : Int)) = false := by rw [beq_eq_false_iff_ne]; omega
      by_cases hgt : j < i
      · have t2 : (j : Int) < (i : Int) := by omega
        obtain ⟨i2, hi2⟩ : ∃ i2, i2 = i - j := ⟨_, rfl⟩
        have ei : (i : Int) - (j : Int) = (i2 : Int) := by omega
        have wi : IntKind.i64.wrap (i2 : Int) = (i2 : Int) := by rw [IntKind.wrap_i64]; omega
        have F : Hid (Rot (swapR dk p m j) (m - i2) m (m + j) = Rot d a m b) := Lib.hid (by rw [← HD.out, hp, hi2]; exact rot_gt hgt (by omega) (by omega))
        have h2p : p + j ≤ m := by omega
        have h3 : i2 ≤ i0 ∧ i2 + j < i + j ∧ 0 < i2 := by omega
        clear hp hi2
        go_wp2_with fail
        refine (CS.out dk wr p m j hsk S1.out h2p (by omega)).mono ?_
        rintro e w2 ⟨rfl, h2⟩
        have S2 : Aside (SW enc w0 blk off (swapR dk p m j) w2) := h2
        clear h2 S1
        go_wp2_with fail
        go_roundg (i2 + j)
        case measure => omega
        case rel => exact ⟨i2, j, _, by first | rfl | go_num, rfl, h3.1, hj, Nat.le_refl _, h3.2.2, hj1, by rw [size_swapR]; exact hsk, F, S2⟩
      · have t2 : ¬ (j : Int) < (i : Int) := by omega
        obtain ⟨j2, hj2⟩ : ∃ j2, j2 = j - i := ⟨_, rfl⟩
        have ej : (j : Int) - (i : Int) = (j2 : Int) := by omega
        have wj : IntKind.i64.wrap (j2 : Int) = (j2 : Int) := by rw [IntKind.wrap_i64]; omega
        obtain ⟨mj, hmj⟩ : ∃ x, x = m + j := ⟨_, rfl⟩
        have em : (m : Int) + (j : Int) = (mj : Int) := by omega
        have wm : IntKind.i64.wrap (mj : Int) = (mj : Int) := by rw [IntKind.wrap_i64]; omega
        obtain ⟨q, hq⟩ : ∃ x, x = m + j - i := ⟨_, rfl⟩
        have eq : (mj : Int) - (i : Int) = (q : Int) := by omega
        have wq : IntKind.i64.wrap (q : Int) = (q : Int) := by rw [IntKind.wrap_i64]; omega
        have F : Hid (Rot (swapR dk p q i) (m - i) m (m + j2) = Rot d a m b) := Lib.hid (by rw [← HD.out, hp, hj2, hq]; exact rot_lt (by omega) (by omega) (by omega))
        have h2p : p + i ≤ q ∧ q + i ≤ sz := by omega
        have h3 : j2 ≤ j0 ∧ i + j2 < i + j ∧ 0 < j2 := by omega
        clear hp hj2 hq hmj
        go_wp2_with fail
        refine (CS.out dk wr p q i hsk S1.out h2p.1 h2p.2).mono ?_
        rintro e w2 ⟨rfl, h2⟩
        have S2 : Aside (SW enc w0 blk off (swapR dk p q i) w2) := h2
        clear h2 S1
        go_wp2_with fail
        go_roundg (i + j2)
        case measure => omega
        case rel => exact ⟨i, j2, _, rfl, by first | rfl | go_num, hi, h3.1, Nat.le_refl _, hi1, h3.2.2, by rw [size_swapR]; exact hsk, F, S2⟩
end Go.Proofs.YtbegngilbngnoaaDoor.St
