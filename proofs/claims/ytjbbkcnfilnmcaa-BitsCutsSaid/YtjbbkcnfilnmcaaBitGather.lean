/- The walk of gather. -/
import Derived.Test.YtjbbkcnfilnmcaaBitPutZ
import Derived.Test.YtjbbkcnfilnmcaaBitAll
namespace Go.Proofs.Ytjbbkcnfilnmcaa.Bt
open Go.RowKit

theorem nbits_num : ∀ (n : Nat) (Z : List Bool), Z.length = n → nbits (num Z) n = Z
  | 0, Z, h => by
    have : Z = [] := List.length_eq_zero_iff.1 h
    subst this; rfl
  | n + 1, Z, h => by
    rcases List.eq_nil_or_concat Z with rfl | ⟨Y, b, rfl⟩
    · simp at h
    · rw [List.concat_eq_append] at h ⊢
      rw [num_snoc, nbits_succ]
      have e1 : (2 * num Y + b.toNat) / 2 = num Y := by cases b <;> simp <;> omega
      have e2 : (2 * num Y + b.toNat).testBit 0 = b := by cases b <;> simp
      rw [e1, e2, nbits_num n Y (by simp at h; omega)]
theorem Work.belowAll {w w' : World} {B p : Nat} {L : List UInt8} {N : Int} (h : Work w B p L N) (hb : Below w.heap.size w w') : Work w' B p L N := by
  obtain ⟨own, s0, v, hblk, hrow, hnn⟩ := h
  exact ⟨own, s0, v, by rw [hb.block p (Array.getElem?_eq_some_iff.1 hblk).1]; exact hblk, owns_below hrow hb, hnn⟩
theorem Kept.below {w w' : World} (hb : Below w.heap.size w w') : Kept w w' := fun k _ _ _ hk _ _ => hb.block k (Array.getElem?_eq_some_iff.1 hk).1

/-- a variable that holds bits, as a block -/
def BoxB (w : World) (g : Nat) (s : ByteArray) (n : Int) : Prop := w.heap[g]? = some (Obj.cells #[.string s, .int .i64 n] 23 (0, 0))
theorem BoxB.new (w : World) (s : ByteArray) (n : Int) : BoxB (w.alloc (.cells #[.string s, .int .i64 n] 23)) w.heap.size s n := heap_alloc_new w _
theorem BoxB.box {w : World} {g : Nat} {s : ByteArray} {n : Int} (h : BoxB w g s n) : Box w g s n := by
  unfold BoxB at h
  exact ⟨(Array.getElem?_eq_some_iff.1 h).1, by simp [World.cell?, h], by simp [World.cell?, h], by simp [World.frozen?, h], by simp [World.frozen?, h]⟩
theorem BoxB.kept {w w' : World} {g : Nat} {s : ByteArray} {n : Int} (h : BoxB w g s n) (k : Kept w w') : BoxB w' g s n := by
  unfold BoxB at h ⊢
  rw [k _ _ _ _ h (by decide) (by decide)]; exact h
theorem BoxB.below {w w' : World} {g : Nat} {s : ByteArray} {n : Int} (h : BoxB w g s n) (b : Below w.heap.size w w') : BoxB w' g s n := h.kept (Kept.below b)

set_option maxHeartbeats 8000000 in
theorem gather_any (p : Nat) (s : ByteArray) (n : Int) (Y : List Bool) (hY : Packs (bytes s) Y) (hYn : Y.length ≤ 1048576) (a c : Nat) (hac : a + c ≤ Y.length) (L : List UInt8) (X : List Bool) (w : World) (B : Nat) (hW : Work w B p L X.length) (hX : Packs L X) (hXr : X.length + c ≤ 1048576) (hB : B ≤ w.heap.size) :
    Calls Try.prog 38 #[.pointer (some ⟨p, 0, none⟩), .agg #[.string s, .int .i64 n], .int .i64 a, .int .i64 c] w fun e w' => e = .returned (.tuple #[]) ∧ (∃ L', Work w' B p L' (X.length + c : Nat) ∧ Packs L' (X ++ (Y.drop a).take c)) ∧ Below B w w' ∧ Kept w w' := by
  have HW := Lib.hid hW; have HX := Lib.hid hX; have HY := Lib.hid hY
  clear hW hX hY
  go_enter Try.func38, Try.ntmps38
  go_wp2_with fail
  go_loopw [2, 3, 8] (fun at' nn _ wr => ∃ (d : Nat) (L' : List UInt8), d ≤ c ∧ at' = .int .i64 (a + d : Nat) ∧ nn = .int .i64 (c - d : Nat) ∧ Work wr B p L' (X.length + d : Nat) ∧ Packs L' (X ++ (Y.drop a).take d) ∧ Below B w wr ∧ Kept w wr ∧ BoxB wr w.heap.size s n) (fun _ nn _ _ => (intOf nn).toNat)
  case atStart => exact ⟨0, L, by omega, rfl, rfl, HW.out.alloc _, by simpa using HX.out, (Below.refl B w).alloc hB _, (Kept.refl w).alloc _, BoxB.new w s n⟩
  case round =>
    obtain ⟨d, L', hd, rfl, rfl, hwk, hpk, hbl, hkp, hbx⟩ := hrel
    by_cases hlt : d < c
    · obtain ⟨q, hq⟩ : ∃ q, q = c - d := ⟨_, rfl⟩
      obtain ⟨f, hf⟩ : ∃ f, f = a + d := ⟨_, rfl⟩
      obtain ⟨step, hstep⟩ : ∃ step, step = min q 64 := ⟨_, rfl⟩
      rw [← hq, ← hf]
      have e1 : min (q : Int) 64 = (step : Int) := by omega
      have q1 : 0 < q := by omega
      have s1 : step ≤ 64 := by omega
      have s2 : step ≤ q := by omega
      have s3 : 0 < step := by omega
      have f1 : f + step ≤ Y.length := by omega
      have f9 : f ≤ 1048576 := by omega
      have q9 : q ≤ 1048576 := by omega
      have HWK := Lib.hid hwk; have HPK := Lib.hid hpk; have HBL := Lib.hid hbl; have HKP := Lib.hid hkp; have HQ := Lib.hid hq; have HF := Lib.hid hf; have HST := Lib.hid hstep; have HLT := Lib.hid hlt; have HD := Lib.hid hd
      have c0 := hbx.box.c0; have c1 := hbx.box.c1
      have HBX := Lib.hid hbx
      clear hbx hwk hpk hbl hkp hq hf hstep hlt hd
      go_wp2_with fail
      refine (number_any s n f step Y HY.out hYn (by omega) (by omega) (by omega) (by omega) _).mono ?_
      rintro e w1 ⟨rfl, b1⟩
      rw [Int.toNat_natCast, Int.toNat_natCast]
      have wk1 := HWK.out.belowAll b1
      have bl1 := HBL.out.trans (b1.mono (Nat.le_trans hB HBL.out.size)) 
      have kp1 := HKP.out.trans (Kept.below b1)
      have bx1 := Lib.hid (HBX.out.below b1)
      have HWK1 := Lib.hid wk1; have HBL1 := Lib.hid bl1; have HKP1 := Lib.hid kp1
      obtain ⟨Z, hZ⟩ : ∃ Z, Z = (Y.drop f).take step := ⟨_, rfl⟩
      rw [← hZ]
      have hZl : Z.length = step := by rw [hZ, List.length_take, List.length_drop]; omega
      have hZn : num Z < 18446744073709551616 := by
        have h := num_lt Z
        rw [hZl] at h
        have h2 : 2 ^ step ≤ 2 ^ 64 := Nat.pow_le_pow_right (by decide) s1
        exact Nat.lt_of_lt_of_le h h2
      have HZ := Lib.hid hZ; have HZL := Lib.hid hZl
      clear wk1 bl1 kp1 b1 hZ hZl
      go_wp2_with fail
      obtain ⟨X1, hX1⟩ : ∃ X1, X1 = X ++ (Y.drop a).take d := ⟨_, rfl⟩
      have hX1l : X1.length = X.length + d := by rw [hX1, List.length_append, List.length_take, List.length_drop]; have := HD.out; omega
      have HX1 := Lib.hid hX1; have HX1L := Lib.hid hX1l
      clear hX1 hX1l
      refine (put_any p (num Z) step L' X1 _ B (by rw [HX1L.out]; exact HWK1.out) (by rw [HX1.out]; exact HPK.out) s1 (by have := HX1L.out; have := HQ.out; have := HD.out; omega) hZn (Nat.le_trans hB HBL1.out.size)).mono ?_
      rintro e w2 ⟨rfl, ⟨L2, wk2, pk2⟩, b2, k2⟩
      have en : X1 ++ nbits (num Z) step = X ++ (Y.drop a).take (d + step) := by
        rw [nbits_num step Z HZL.out, HX1.out, HZ.out, HF.out, List.append_assoc, ← take_add]
      rw [en] at pk2
      have WK2 := Lib.hid wk2; have PK2 := Lib.hid pk2; have BL2 := Lib.hid (HBL1.out.trans b2); have KP2 := Lib.hid (HKP1.out.trans k2); have BX2 := Lib.hid (bx1.out.kept k2)
      clear wk2 pk2 b2 k2 en hZn
      go_wp2_with fail
      go_roundw
      case rel => exact ⟨d + step, L2, by have := HQ.out; have := HD.out; omega, by have := HF.out; go_num, by have := HQ.out; have := HD.out; go_num, by rw [show X.length + (d + step) = X1.length + step from by have := HX1L.out; omega]; exact WK2.out, PK2.out, BL2.out, KP2.out, BX2.out⟩
      case measure => simp [intOf]; omega
    · obtain rfl : d = c := by omega
      have HPK := Lib.hid hpk; have HWK := Lib.hid hwk
      clear hpk hwk
      go_wp2_with fail
      go_end0
      exact ⟨rfl, ⟨L', HWK.out, HPK.out⟩, hbl, hkp⟩
end Go.Proofs.Ytjbbkcnfilnmcaa.Bt
