/- BitGather BitCut BitTurnW BitTurn BitCat -/
import Derived.Test.YtjnehpkkkmicfaaBnA
import Derived.Test.YtjnehpkkkmicfaaBnB
namespace Go.Proofs.Ytjnehpkkkmicfaa.Bt
open Go.RowKit

theorem nbits_num : ∀ (n : Nat) (Z : List Bool), Z.length = n → nbits (num Z) n = Z
  | 0, Z, h => by
    have : Z = [] := List.length_eq_zero_iff.1 h
    subst this; rfl
  | n + 1, Z, h => by
    rcases List.eq_nil_or_concat Z with rfl | ⟨Y, b, rfl⟩
    · simp at h
    · rw [List.concat_eq_append] at h ⊢
      rw [num_snoc, nbits_succ]
      have e1 : (2 * num Y + b.toNat) / 2 = num Y := by cases b <;> simp <;> omega
      have e2 : (2 * num Y + b.toNat).testBit 0 = b := by cases b <;> simp
      rw [e1, e2, nbits_num n Y (by simp at h; omega)]
theorem Work.belowAll {w w' : World} {B p : Nat} {L : List UInt8} {N : Int} (h : Work w B p L N) (hb : Below w.heap.size w w') : Work w' B p L N := by
  obtain ⟨own, s0, v, hblk, hrow, hnn⟩ := h
  exact ⟨own, s0, v, by rw [hb.block p (Array.getElem?_eq_some_iff.1 hblk).1]; exact hblk, owns_below hrow hb, hnn⟩
theorem Kept.below {w w' : World} (hb : Below w.heap.size w w') : Kept w w' := fun k _ _ _ hk _ _ => hb.block k (Array.getElem?_eq_some_iff.1 hk).1

/-- a variable that holds bits, as a block -/
def BoxB (w : World) (g : Nat) (s : ByteArray) (n : Int) : Prop := w.heap[g]? = some (Obj.cells #[.string s, .int .i64 n] 35 (0, 0))
theorem BoxB.new (w : World) (s : ByteArray) (n : Int) : BoxB (w.alloc (.cells #[.string s, .int .i64 n] 35)) w.heap.size s n := heap_alloc_new w _
theorem BoxB.box {w : World} {g : Nat} {s : ByteArray} {n : Int} (h : BoxB w g s n) : Box w g s n := by
  unfold BoxB at h
  exact ⟨(Array.getElem?_eq_some_iff.1 h).1, by simp [World.cell?, h], by simp [World.cell?, h], by simp [World.frozen?, h], by simp [World.frozen?, h]⟩
theorem BoxB.kept {w w' : World} {g : Nat} {s : ByteArray} {n : Int} (h : BoxB w g s n) (k : Kept w w') : BoxB w' g s n := by
  unfold BoxB at h ⊢
  rw [k _ _ _ _ h (by decide) (by decide)]; exact h
theorem BoxB.below {w w' : World} {g : Nat} {s : ByteArray} {n : Int} (h : BoxB w g s n) (b : Below w.heap.size w w') : BoxB w' g s n := h.kept (Kept.below b)

set_option maxHeartbeats 8000000 in
theorem gather_any (p : Nat) (s : ByteArray) (n : Int) (Y : List Bool) (hY : Packs (bytes s) Y) (hYn : Y.length ≤ 1048576) (a c : Nat) (hac : a + c ≤ Y.length) (L : List UInt8) (X : List Bool) (w : World) (B : Nat) (hW : Work w B p L X.length) (hX : Packs L X) (hXr : X.length + c ≤ 1048576) (hB : B ≤ w.heap.size) :
    Calls Try.prog 51 #[.pointer (some ⟨p, 0, none⟩), .agg #[.string s, .int .i64 n], .int .i64 a, .int .i64 c] w fun e w' => e = .returned (.tuple #[]) ∧ (∃ L', Work w' B p L' (X.length + c : Nat) ∧ Packs L' (X ++ (Y.drop a).take c)) ∧ Below B w w' ∧ Kept w w' := by
  have HW := Lib.hid hW; have HX := Lib.hid hX; have HY := Lib.hid hY
  clear hW hX hY
  go_enter Try.func51, Try.ntmps51
  go_wp2_with fail
  go_loopw [2, 3, 8] (fun at' nn _ wr => ∃ (d : Nat) (L' : List UInt8), d ≤ c ∧ at' = .int .i64 (a + d : Nat) ∧ nn = .int .i64 (c - d : Nat) ∧ Work wr B p L' (X.length + d : Nat) ∧ Packs L' (X ++ (Y.drop a).take d) ∧ Below B w wr ∧ Kept w wr ∧ BoxB wr w.heap.size s n) (fun _ nn _ _ => (intOf nn).toNat)
  case atStart => exact ⟨0, L, by omega, rfl, rfl, HW.out.alloc _, by simpa using HX.out, (Below.refl B w).alloc hB _, (Kept.refl w).alloc _, BoxB.new w s n⟩
  case round =>
    obtain ⟨d, L', hd, rfl, rfl, hwk, hpk, hbl, hkp, hbx⟩ := hrel
    by_cases hlt : d < c
    · obtain ⟨q, hq⟩ : ∃ q, q = c - d := ⟨_, rfl⟩
      obtain ⟨f, hf⟩ : ∃ f, f = a + d := ⟨_, rfl⟩
      obtain ⟨step, hstep⟩ : ∃ step, step = min q 64 := ⟨_, rfl⟩
      rw [← hq, ← hf]
      have e1 : min (q : Int) 64 = (step : Int) := by omega
      have q1 : 0 < q := by omega
      have s1 : step ≤ 64 := by omega
      have s2 : step ≤ q := by omega
      have s3 : 0 < step := by omega
      have f1 : f + step ≤ Y.length := by omega
      have f9 : f ≤ 1048576 := by omega
      have q9 : q ≤ 1048576 := by omega
      have HWK := Lib.hid hwk; have HPK := Lib.hid hpk; have HBL := Lib.hid hbl; have HKP := Lib.hid hkp; have HQ := Lib.hid hq; have HF := Lib.hid hf; have HST := Lib.hid hstep; have HLT := Lib.hid hlt; have HD := Lib.hid hd
      have c0 := hbx.box.c0; have c1 := hbx.box.c1
      have HBX := Lib.hid hbx
      clear hbx hwk hpk hbl hkp hq hf hstep hlt hd
      go_wp2_with fail
      refine (number_any s n f step Y HY.out hYn (by omega) (by omega) (by omega) (by omega) _).mono ?_
      rintro e w1 ⟨rfl, b1⟩
      rw [Int.toNat_natCast, Int.toNat_natCast]
      have wk1 := HWK.out.belowAll b1
      have bl1 := HBL.out.trans (b1.mono (Nat.le_trans hB HBL.out.size)) 
      have kp1 := HKP.out.trans (Kept.below b1)
      have bx1 := Lib.hid (HBX.out.below b1)
      have HWK1 := Lib.hid wk1; have HBL1 := Lib.hid bl1; have HKP1 := Lib.hid kp1
      obtain ⟨Z, hZ⟩ : ∃ Z, Z = (Y.drop f).take step := ⟨_, rfl⟩
      rw [← hZ]
      have hZl : Z.length = step := by rw [hZ, List.length_take, List.length_drop]; omega
      have hZn : num Z < 18446744073709551616 := by
        have h := num_lt Z
        rw [hZl] at h
        have h2 : 2 ^ step ≤ 2 ^ 64 := Nat.pow_le_pow_right (by decide) s1
        exact Nat.lt_of_lt_of_le h h2
      have HZ := Lib.hid hZ; have HZL := Lib.hid hZl
      clear wk1 bl1 kp1 b1 hZ hZl
      go_wp2_with fail
      obtain ⟨X1, hX1⟩ : ∃ X1, X1 = X ++ (Y.drop a).take d := ⟨_, rfl⟩
      have hX1l : X1.length = X.length + d := by rw [hX1, List.length_append, List.length_take, List.length_drop]; have := HD.out; omega
      have HX1 := Lib.hid hX1; have HX1L := Lib.hid hX1l
      clear hX1 hX1l
      refine (put_any p (num Z) step L' X1 _ B (by rw [HX1L.out]; exact HWK1.out) (by rw [HX1.out]; exact HPK.out) s1 (by have := HX1L.out; have := HQ.out; have := HD.out; omega) hZn (Nat.le_trans hB HBL1.out.size)).mono ?_
      rintro e w2 ⟨rfl, ⟨L2, wk2, pk2⟩, b2, k2⟩
      have en : X1 ++ nbits (num Z) step = X ++ (Y.drop a).take (d + step) := by
        rw [nbits_num step Z HZL.out, HX1.out, HZ.out, HF.out, List.append_assoc, ← take_add]
      rw [en] at pk2
      have WK2 := Lib.hid wk2; have PK2 := Lib.hid pk2; have BL2 := Lib.hid (HBL1.out.trans b2); have KP2 := Lib.hid (HKP1.out.trans k2); have BX2 := Lib.hid (bx1.out.kept k2)
      clear wk2 pk2 b2 k2 en hZn
      go_wp2_with fail
      go_roundw
      case rel => exact ⟨d + step, L2, by have := HQ.out; have := HD.out; omega, by have := HF.out; go_num, by have := HQ.out; have := HD.out; go_num, by rw [show X.length + (d + step) = X1.length + step from by have := HX1L.out; omega]; exact WK2.out, PK2.out, BL2.out, KP2.out, BX2.out⟩
      case measure => simp [intOf]; omega
    · obtain rfl : d = c := by omega
      have HPK := Lib.hid hpk; have HWK := Lib.hid hwk
      clear hpk hwk
      go_wp2_with fail
      go_end0
      exact ⟨rfl, ⟨L', HWK.out, HPK.out⟩, hbl, hkp⟩
end Go.Proofs.Ytjnehpkkkmicfaa.Bt
namespace Go.Proofs.Ytjnehpkkkmicfaa.Bt
open Go.RowKit

noncomputable def cutE (s : ByteArray) (n a c : Int) : Int := if chk s n ≠ 0 then 2 else if a < 0 ∨ c < 0 ∨ n < a then 1 else if n - a < c then 5 else 0
noncomputable def cutS (s : ByteArray) (n a c : Int) : ByteArray := if cutE s n a c = 0 then packS (((bl (bytes s) n.toNat).drop a.toNat).take c.toNat) else ⟨#[]⟩
noncomputable def cutN (s : ByteArray) (n a c : Int) : Int := if cutE s n a c = 0 then c else 0

set_option maxHeartbeats 8000000 in
theorem cut_any (s : ByteArray) (n a c : Int) (w : World) (hs : s.size ≤ maxLen) :
    Calls Try.prog 23 #[.agg #[.string s, .int .i64 n], .int .i64 a, .int .i64 c] w fun e w' => e = .returned (.tuple #[.agg #[.string (cutS s n a c), .int .i64 (cutN s n a c)], .int .i64 (cutE s n a c)]) ∧ Below w.heap.size w w' := by
  have hbx : Below w.heap.size w ((w.alloc (.cells #[.string s, .int .i64 n] 35)).alloc (.cells #[.string ⟨#[]⟩, .int .i64 0] 35)) := ((Below.refl _ _).alloc (Nat.le_refl _) _).alloc (by simp) _
  rcases chk_cases s n with hc | hc
  case inr =>
    have e1 : cutE s n a c = 2 := if_pos (by omega)
    have FS : Hid (cutS s n a c = ⟨#[]⟩ ∧ cutN s n a c = 0 ∧ cutE s n a c = 2) := Lib.hid ⟨if_neg (by omega), if_neg (by omega), e1⟩
    clear e1
    go_enter Try.func23, Try.ntmps23
    go_wp2_with fail
    refine (check_any _ _ _ hs).mono ?_
    rintro e w1 ⟨rfl, b1⟩
    have x0 := (box_end b1).1; have x1 := (box_end b1).2
    have c0 := x0.c0; have c1 := x0.c1
    have q0 := x1.c0; have q1 := x1.c1; have p0 := x1.f0; have p1 := x1.f1
    have x2 := x1.set ⟨#[]⟩ 0
    have b2 := hbx.trans (b1.mono (by simp; omega))
    have b3 := Lib.hid ((b2.setCell (p := ⟨w.heap.size + 1, 0, none⟩) (Nat.le_succ _) (.string ⟨#[]⟩)).setCell (p := ⟨w.heap.size + 1, 1, none⟩) (Nat.le_succ _) (.int .i64 0))
    have z0 := Lib.hid x2.c0; have z1 := Lib.hid x2.c1
    rw [hc]
    clear b1 b2 x0 x1 x2
    go_wp2_with fail
    refine bodyPost_ret (v := .tuple #[.agg #[.string ⟨#[]⟩, .int .i64 0], .int .i64 2]) (by simp [results, Try.results23, go_sem, z0.out, z1.out]) rfl ⟨ret_bit FS.out.1.symm FS.out.2.1.symm FS.out.2.2.symm, b3.out⟩
  have hR := chk_zero hc
  have hsm := size_small hR
  have hpk := hR.packs
  obtain ⟨m, rfl⟩ := Int.eq_ofNat_of_zero_le hR.1
  have hm : m ≤ 1048576 := by have := hR.2.1; omega
  by_cases hbad : a < 0 ∨ c < 0 ∨ (m : Int) < a
  · have e1 : cutE s m a c = 1 := by unfold cutE; rw [if_neg (by omega), if_pos hbad]
    have FS : Hid (cutS s m a c = ⟨#[]⟩ ∧ cutN s m a c = 0 ∧ cutE s m a c = 1) := Lib.hid ⟨if_neg (by omega), if_neg (by omega), e1⟩
    clear e1 hR hpk
    by_cases q1 : a < 0
    · go_enter Try.func23, Try.ntmps23
      go_wp2_with fail
      refine (check_any _ _ _ hs).mono ?_
      rintro e w1 ⟨rfl, b1⟩
      have x0 := (box_end b1).1; have x1 := (box_end b1).2
      have c0 := x0.c0; have c1 := x0.c1
      have q0 := x1.c0; have q1 := x1.c1; have p0 := x1.f0; have p1 := x1.f1
      have x2 := x1.set ⟨#[]⟩ 0
      have b2 := hbx.trans (b1.mono (by simp; omega))
      have b3 := Lib.hid ((b2.setCell (p := ⟨w.heap.size + 1, 0, none⟩) (Nat.le_succ _) (.string ⟨#[]⟩)).setCell (p := ⟨w.heap.size + 1, 1, none⟩) (Nat.le_succ _) (.int .i64 0))
      have z0 := Lib.hid x2.c0; have z1 := Lib.hid x2.c1
      rw [hc]
      clear b1 b2 x0 x1 x2
      go_wp2_with fail
      refine bodyPost_ret (v := .tuple #[.agg #[.string ⟨#[]⟩, .int .i64 0], .int .i64 1]) (by simp [results, Try.results23, go_sem, z0.out, z1.out]) rfl ⟨ret_bit FS.out.1.symm FS.out.2.1.symm FS.out.2.2.symm, b3.out⟩
    by_cases q2 : c < 0
    · go_enter Try.func23, Try.ntmps23
      go_wp2_with fail
      refine (check_any _ _ _ hs).mono ?_
      rintro e w1 ⟨rfl, b1⟩
      have x0 := (box_end b1).1; have x1 := (box_end b1).2
      have c0 := x0.c0; have c1 := x0.c1
      have q0 := x1.c0; have q1 := x1.c1; have p0 := x1.f0; have p1 := x1.f1
      have x2 := x1.set ⟨#[]⟩ 0
      have b2 := hbx.trans (b1.mono (by simp; omega))
      have b3 := Lib.hid ((b2.setCell (p := ⟨w.heap.size + 1, 0, none⟩) (Nat.le_succ _) (.string ⟨#[]⟩)).setCell (p := ⟨w.heap.size + 1, 1, none⟩) (Nat.le_succ _) (.int .i64 0))
      have z0 := Lib.hid x2.c0; have z1 := Lib.hid x2.c1
      rw [hc]
      clear b1 b2 x0 x1 x2
      go_wp2_with fail
      refine bodyPost_ret (v := .tuple #[.agg #[.string ⟨#[]⟩, .int .i64 0], .int .i64 1]) (by simp [results, Try.results23, go_sem, z0.out, z1.out]) rfl ⟨ret_bit FS.out.1.symm FS.out.2.1.symm FS.out.2.2.symm, b3.out⟩
    have q3 : (m : Int) < a := by omega
    clear hbad
    go_enter Try.func23, Try.ntmps23
    go_wp2_with fail
    refine (check_any _ _ _ hs).mono ?_
    rintro e w1 ⟨rfl, b1⟩
    have x0 := (box_end b1).1; have x1 := (box_end b1).2
    have c0 := x0.c0; have c1 := x0.c1
    have q0 := x1.c0; have q1 := x1.c1; have p0 := x1.f0; have p1 := x1.f1
    have x2 := x1.set ⟨#[]⟩ 0
    have b2 := hbx.trans (b1.mono (by simp; omega))
    have b3 := Lib.hid ((b2.setCell (p := ⟨w.heap.size + 1, 0, none⟩) (Nat.le_succ _) (.string ⟨#[]⟩)).setCell (p := ⟨w.heap.size + 1, 1, none⟩) (Nat.le_succ _) (.int .i64 0))
    have z0 := Lib.hid x2.c0; have z1 := Lib.hid x2.c1
    rw [hc]
    clear b1 b2 x0 x1 x2
    go_wp2_with fail
    refine bodyPost_ret (v := .tuple #[.agg #[.string ⟨#[]⟩, .int .i64 0], .int .i64 1]) (by simp [results, Try.results23, go_sem, z0.out, z1.out]) rfl ⟨ret_bit FS.out.1.symm FS.out.2.1.symm FS.out.2.2.symm, b3.out⟩
  obtain ⟨a, rfl⟩ := Int.eq_ofNat_of_zero_le (show 0 ≤ a by omega)
  obtain ⟨c, rfl⟩ := Int.eq_ofNat_of_zero_le (show 0 ≤ c by omega)
  have ham : a ≤ m := by omega
  by_cases q4 : (m : Int) - a < c
  · have e1 : cutE s m a c = 5 := by unfold cutE; rw [if_neg (by omega), if_neg hbad, if_pos q4]
    have FS : Hid (cutS s m a c = ⟨#[]⟩ ∧ cutN s m a c = 0 ∧ cutE s m a c = 5) := Lib.hid ⟨if_neg (by omega), if_neg (by omega), e1⟩
    clear e1 hR hpk hbad
    go_enter Try.func23, Try.ntmps23
    go_wp2_with fail
    refine (check_any _ _ _ hs).mono ?_
    rintro e w1 ⟨rfl, b1⟩
    have x0 := (box_end b1).1; have x1 := (box_end b1).2
    have c0 := x0.c0; have c1 := x0.c1
    have q0 := x1.c0; have q1 := x1.c1; have p0 := x1.f0; have p1 := x1.f1
    have x2 := x1.set ⟨#[]⟩ 0
    have b2 := hbx.trans (b1.mono (by simp; omega))
    have b3 := Lib.hid ((b2.setCell (p := ⟨w.heap.size + 1, 0, none⟩) (Nat.le_succ _) (.string ⟨#[]⟩)).setCell (p := ⟨w.heap.size + 1, 1, none⟩) (Nat.le_succ _) (.int .i64 0))
    have z0 := Lib.hid x2.c0; have z1 := Lib.hid x2.c1
    rw [hc]
    clear b1 b2 x0 x1 x2
    go_wp2_with fail
    refine bodyPost_ret (v := .tuple #[.agg #[.string ⟨#[]⟩, .int .i64 0], .int .i64 5]) (by simp [results, Try.results23, go_sem, z0.out, z1.out]) rfl ⟨ret_bit FS.out.1.symm FS.out.2.1.symm FS.out.2.2.symm, b3.out⟩
  have e1 : cutE s m a c = 0 := by unfold cutE; rw [if_neg (by omega), if_neg hbad, if_neg q4]
  have hacm : a + c ≤ m := by omega
  have FS : Hid (cutS s m a c = packS (((bl (bytes s) m).drop a).take c) ∧ cutN s m a c = c ∧ cutE s m a c = 0) := Lib.hid ⟨by unfold cutS; rw [if_pos e1]; simp, by unfold cutN; rw [if_pos e1], e1⟩
  rw [Int.toNat_natCast] at hpk
  have hl := bl_length (bytes s) m
  generalize bl (bytes s) m = Y at hpk hl FS
  have HY := Lib.hid hpk; have HYL := Lib.hid hl
  clear e1 hR hpk hl hbad
  go_enter Try.func23, Try.ntmps23
  go_wp2_with fail
  refine (check_any _ _ _ hs).mono ?_
  rintro e w1 ⟨rfl, b1⟩
  have x0 := (box_end b1).1; have x1 := (box_end b1).2
  have c0 := x0.c0; have c1 := x0.c1
  have X1 := Lib.hid x1; have X0 := Lib.hid x0
  have B1 := Lib.hid (hbx.trans (b1.mono (by simp; omega)))
  have z1 : w.heap.size + 1 < w1.heap.size := x1.lt
  rw [hc]
  clear b1 x0 x1
  go_wp2_with fail
  refine (begin_any ⟨#[]⟩ 0 c (by omega) (by omega) (by exact Nat.zero_le _) _ w1.heap.size (by first | exact Nat.le_refl _ | simp)).mono ?_
  rintro e w2 ⟨p, rfl, hwk, b2⟩
  have B2 := Lib.hid b2
  have wk1 : Work w2 w1.heap.size p [] (([] : List Bool).length : Nat) := hwk
  have x2 := X0.out.below b2; have y2 := Lib.hid (X1.out.below b2)
  have c0 := x2.c0; have c1 := x2.c1
  have WK := Lib.hid wk1
  clear wk1 x2 hwk b2
  go_wp2_with fail
  refine (gather_any p s m Y HY.out (by have := HYL.out; omega) a c (by have := HYL.out; omega) [] [] _ w1.heap.size WK.out ⟨rfl, fun i => by rw [bitAt_nil]; simp⟩ (by simp; omega) B2.out.size).mono ?_
  rintro e w3 ⟨rfl, ⟨L, wk2, pk2⟩, b3, _⟩
  have hLl : L.length ≤ 200000 := by rw [pk2.1]; simp; omega
  have hLe := pk2.eq
  rw [List.nil_append] at hLe
  have WK2 := Lib.hid wk2; have B3 := Lib.hid (B2.out.trans b3); have HLE := Lib.hid hLe
  clear wk2 pk2 b3 hLe c0 c1
  go_wp2_with fail
  refine (done_any p L _ _ w1.heap.size WK2.out hLl B3.out.size).mono ?_
  rintro e w4 ⟨rfl, b4⟩
  have b5 := B3.out.trans b4
  have x5 := X1.out.below b5
  have q0 := x5.c0; have q1 := x5.c1; have p0 := x5.f0; have p1 := x5.f1
  obtain ⟨S, hS⟩ : ∃ S : ByteArray, S = ⟨L.toArray⟩ := ⟨_, rfl⟩
  rw [← hS]
  obtain ⟨K, hK⟩ : ∃ K : Int, K = ((([] : List Bool).length + c : Nat) : Int) := ⟨_, rfl⟩
  rw [← hK]
  have FS2 : Hid (cutS s m a c = S ∧ cutN s m a c = K) := Lib.hid ⟨by rw [FS.out.1, hS, HLE.out]; rfl, by rw [FS.out.2.1, hK]; simp⟩
  have x6 := x5.set S K
  have z0 := Lib.hid x6.c0; have z1' := Lib.hid x6.c1
  have b6 := Lib.hid (((B1.out.trans (b5.mono B1.out.size)).setCell (p := ⟨w.heap.size + 1, 0, none⟩) (Nat.le_succ _) (.string S)).setCell (p := ⟨w.heap.size + 1, 1, none⟩) (Nat.le_succ _) (.int .i64 K))
  clear b4 b5 x5 x6 hS hK
  go_wp2_with fail
  refine bodyPost_ret (v := .tuple #[.agg #[.string S, .int .i64 K], .int .i64 0]) (by simp [results, Try.results23, go_sem, z0.out, z1'.out]) rfl ⟨ret_bit FS2.out.1.symm FS2.out.2.symm FS.out.2.2.symm, b6.out⟩
end Go.Proofs.Ytjnehpkkkmicfaa.Bt
namespace Go.Proofs.Ytjnehpkkkmicfaa.Bt
open Go.RowKit

/-- one bit turned -/
def flip (X : List Bool) (i : Nat) : List Bool := X.set i (!X.getD i false)
theorem flip_length (X : List Bool) (i : Nat) : (flip X i).length = X.length := by simp [flip]
theorem flip_getD (X : List Bool) (i j : Nat) (hi : i < X.length) : (flip X i).getD j false = if i = j then !X.getD i false else X.getD j false := by
  unfold flip
  simp only [List.getD_eq_getElem?_getD, List.getElem?_set]
  by_cases h : i = j
  · subst h; simp [hi]
  · simp [h]
theorem xor_lt8 (c : UInt8) (t : Nat) (ht : t < 8) : c.toNat ^^^ 2 ^ t < 256 := by
  have h : 2 ^ t < 2 ^ 8 := Nat.pow_lt_pow_right (by decide) ht
  exact Nat.xor_lt_two_pow (n := 8) c.toNat_lt h
theorem flip_packs {L : List UInt8} {X : List Bool} (h : Packs L X) (i : Nat) (hi : i < X.length) : Packs (L.set (i / 8) (UInt8.ofNat ((L.getD (i / 8) 0).toNat ^^^ 2 ^ (7 - i % 8)))) (flip X i) := by
  have hl := h.1
  have hx := xor_lt8 (L.getD (i / 8) 0) (7 - i % 8) (by omega)
  refine ⟨by rw [List.length_set, flip_length]; exact hl, fun k => ?_⟩
  rw [flip_getD X i k hi]
  have e := h.2 k
  unfold bitAt at e ⊢
  rw [getD_set8 _ _ _ _ (by omega)]
  by_cases hs : i / 8 = k / 8
  · rw [if_pos hs, UInt8.toNat_ofNat_of_lt' hx, Nat.testBit_xor, hs, e, Nat.testBit_two_pow]
    by_cases hk : i = k
    · subst hk; rw [if_pos rfl, decide_eq_true rfl]; simp
    · have ne : ¬ (7 - i % 8 = 7 - k % 8) := by omega
      rw [if_neg hk, decide_eq_false ne]; simp
  · rw [if_neg hs, e, if_neg (by intro e; apply hs; rw [e])]
theorem St.turned {w : World} {B p : Nat} {L : List UInt8} {N : Int} {s0 : ByteArray} {g cap : Nat} (h : St w B p L N s0 (.slice (some ⟨g, 0, none⟩) L.length cap)) (j : Nat) (x : UInt8) :
    St (w.setCell ⟨g, j, none⟩ (.int .u8 (x.toNat : Int))) B p (L.set j x) N s0 (.slice (some ⟨g, 0, none⟩) L.length cap) := by
  have hne : p ≠ g := by
    intro e; subst e
    exact row_ne h.row h.block rfl
  have hr := (h.row.stored j (.int .u8 (x.toNat : Int))).1
  have hset : (Lib.byteCells L).set j (.int .u8 (x.toNat : Int)) = Lib.byteCells (L.set j x) := by simp [Lib.byteCells, List.map_set]
  rw [hset] at hr
  refine ⟨h.own, by rw [heap_setCell_other _ _ _ _ hne]; exact h.block, ?_, by simp⟩
  rw [List.length_set]; exact hr

end Go.Proofs.Ytjnehpkkkmicfaa.Bt
namespace Go.Proofs.Ytjnehpkkkmicfaa.Bt
open Go.RowKit

noncomputable def turnE (s : ByteArray) (n i : Int) : Int := if chk s n ≠ 0 then 2 else if i < 0 ∨ n ≤ i then 1 else 0
noncomputable def turnS (s : ByteArray) (n i : Int) : ByteArray := if turnE s n i = 0 then packS (flip (bl (bytes s) n.toNat) i.toNat) else if turnE s n i = 2 then ⟨#[]⟩ else s
noncomputable def turnN (s : ByteArray) (n i : Int) : Int := if turnE s n i = 2 then 0 else n

end Go.Proofs.Ytjnehpkkkmicfaa.Bt
namespace Go.Proofs.Ytjnehpkkkmicfaa.Bt
open Go.RowKit

abbrev Many := List (ByteArray × Int)
def Many.at (M : Many) (i : Nat) : ByteArray × Int := M.getD i (⟨#[]⟩, 0)
/-- a slice of bits, as it is read -/
def ManyAt (w : World) (p : Option Addr) (M : Many) : Prop := ∀ i, i < M.length → ∃ g o, p = some ⟨g, o, none⟩ ∧ g < w.heap.size ∧ w.cell? ⟨g, o + i * 2, none⟩ = some (.string (M.at i).1) ∧ w.cell? ⟨g, o + i * 2 + 1, none⟩ = some (.int .i64 (M.at i).2) ∧ (M.at i).1.size ≤ maxLen
theorem ManyAt.below {w w' : World} {p : Option Addr} {M : Many} (h : ManyAt w p M) (hb : Below w.heap.size w w') : ManyAt w' p M := fun i hi => by
  obtain ⟨g, o, e, hg, c, d, hs⟩ := h i hi
  exact ⟨g, o, e, Nat.lt_of_lt_of_le hg hb.size, by rw [hb.cell hg]; exact c, by rw [hb.cell hg]; exact d, hs⟩
/-- what is wrong first with bits that are put behind t others -/
noncomputable def catF (t : Int) : Many → Int
  | [] => 0
  | m :: r => if chk m.1 m.2 ≠ 0 then 2 else if 1048576 < t + m.2 then 8 else catF (t + m.2) r
theorem drop_at (M : Many) (k : Nat) (h : k < M.length) : M.drop k = M.at k :: M.drop (k + 1) := by
  rw [List.drop_eq_getElem_cons h]
  simp [Many.at, List.getD_eq_getElem?_getD, List.getElem?_eq_getElem h]
noncomputable def catE (s : ByteArray) (n : Int) (M : Many) : Int := if chk s n ≠ 0 then 2 else catF n M
noncomputable def catX (M : Many) : List Bool := M.flatMap fun m => bl (bytes m.1) m.2.toNat
noncomputable def catS (s : ByteArray) (n : Int) (M : Many) : ByteArray := if chk s n ≠ 0 then ⟨#[]⟩ else if catF n M = 0 then packS (bl (bytes s) n.toNat ++ catX M) else s
def sumN (M : Many) : Int := (M.map (·.2)).sum
noncomputable def catN (s : ByteArray) (n : Int) (M : Many) : Int := if chk s n ≠ 0 then 0 else if catF n M = 0 then n + sumN M else n

theorem catF_cons {t : Int} {a : ByteArray × Int} {r : Many} (h : catF t (a :: r) = 0) : chk a.1 a.2 = 0 ∧ t + a.2 ≤ 1048576 ∧ catF (t + a.2) r = 0 := by
  have e : catF t (a :: r) = if chk a.1 a.2 ≠ 0 then 2 else if 1048576 < t + a.2 then 8 else catF (t + a.2) r := rfl
  rw [e] at h
  split at h
  · cases h
  · split at h
    · cases h
    · exact ⟨by omega, by omega, h⟩
theorem catX_cons (a : ByteArray × Int) (r : Many) : catX (a :: r) = bl (bytes a.1) a.2.toNat ++ catX r := by simp [catX]
theorem Box.belowB {w w' : World} {g B : Nat} {s : ByteArray} {n : Int} (h : Box w g s n) (hb : Below B w w') (hg : g < B) : Box w' g s n :=
  ⟨Nat.lt_of_lt_of_le h.lt hb.size, by rw [hb.cell hg]; exact h.c0, by rw [hb.cell hg]; exact h.c1, by rw [hb.frozen hg]; exact h.f0, by rw [hb.frozen hg]; exact h.f1⟩

set_option maxHeartbeats 8000000 in
theorem cat_any (s : ByteArray) (n : Int) (p : Option Addr) (cap : Nat) (M : Many) (w : World) (hs : s.size ≤ maxLen) (hM : ManyAt w p M) (hMl : M.length ≤ maxLen) :
    Calls Try.prog 43 #[.agg #[.string s, .int .i64 n], .slice p M.length cap] w fun e w' => e = .returned (.tuple #[.agg #[.string (catS s n M), .int .i64 (catN s n M)], .int .i64 (catE s n M)]) ∧ Below w.heap.size w w' := by
  have hbx : Below w.heap.size w ((w.alloc (.cells #[.string s, .int .i64 n] 35)).alloc (.cells #[.string ⟨#[]⟩, .int .i64 0] 35)) := ((Below.refl _ _).alloc (Nat.le_refl _) _).alloc (by simp) _
  unfold maxLen at hMl
  have HM := Lib.hid hM
  clear hM
  rcases chk_cases s n with hc | hc
  case inr =>
    have FS : Hid (catS s n M = ⟨#[]⟩ ∧ catN s n M = 0 ∧ catE s n M = 2) := Lib.hid ⟨if_pos (by omega), if_pos (by omega), if_pos (by omega)⟩
    go_enter Try.func43, Try.ntmps43
    go_wp2_with fail
    refine (check_any _ _ _ hs).mono ?_
    rintro e w1 ⟨rfl, b1⟩
    have x0 := (box_end b1).1; have x1 := (box_end b1).2
    have c0 := x0.c0; have c1 := x0.c1
    have q0 := x1.c0; have q1 := x1.c1; have p0 := x1.f0; have p1 := x1.f1
    have x2 := x1.set ⟨#[]⟩ 0
    have b2 := hbx.trans (b1.mono (by simp; omega))
    have b3 := Lib.hid ((b2.setCell (p := ⟨w.heap.size + 1, 0, none⟩) (Nat.le_succ _) (.string ⟨#[]⟩)).setCell (p := ⟨w.heap.size + 1, 1, none⟩) (Nat.le_succ _) (.int .i64 0))
    have z0 := Lib.hid x2.c0; have z1 := Lib.hid x2.c1
    rw [hc]
    clear b1 b2 x0 x1 x2
    go_wp2_with fail
    refine bodyPost_ret (v := .tuple #[.agg #[.string ⟨#[]⟩, .int .i64 0], .int .i64 2]) (by simp [results, Try.results43, go_sem, z0.out, z1.out]) rfl ⟨ret_bit FS.out.1.symm FS.out.2.1.symm FS.out.2.2.symm, b3.out⟩
  have hR := chk_zero hc
  have hsm := size_small hR
  have hpk := hR.packs
  obtain ⟨m, rfl⟩ := Int.eq_ofNat_of_zero_le hR.1
  have hm : m ≤ 1048576 := by have := hR.2.1; omega
  have HC := Lib.hid hc; have HPK := Lib.hid hpk; have HRR := Lib.hid hR
  clear hR hpk
  go_enter Try.func43, Try.ntmps43
  go_wp2_with fail
  refine (check_any _ _ _ hs).mono ?_
  rintro e w1 ⟨rfl, b1⟩
  have x0 := (box_end b1).1; have x1 := (box_end b1).2
  have c0 := x0.c0; have c1 := x0.c1
  have X0 := Lib.hid x0; have X1 := Lib.hid x1
  have B1 := Lib.hid (hbx.trans (b1.mono (by simp; omega)))
  rw [hc]
  clear b1 x0 x1 hc
  go_wp2_with fail
  clear c0 c1
  go_loopw [7, 9, 10, 24] (fun tot _ _ i wr => ∃ k t : Nat, k ≤ M.length ∧ t ≤ 1048576 ∧ i = .int .i64 k ∧ tot = .int .i64 t ∧ catF m M = catF t (M.drop k) ∧ (t : Int) + sumN (M.drop k) = m + sumN M ∧ m ≤ t ∧ Box wr w.heap.size s m ∧ Box wr (w.heap.size + 1) ⟨#[]⟩ 0 ∧ Below w.heap.size w wr) (fun _ _ _ i _ => M.length - (intOf i).toNat)
  case atStart => exact ⟨0, m, by omega, hm, rfl, rfl, by rw [List.drop_zero], by rw [List.drop_zero], Nat.le_refl _, X0.out, X1.out, B1.out⟩
  case round =>
    obtain ⟨k, t, hk, ht, rfl, rfl, hf, hsum, hmt, hb0, hb1, hbl⟩ := hrel
    by_cases hlt : k < M.length
    · obtain ⟨g, o, rfl, hg, d0, d1, hsz⟩ := (HM.out.below hbl) k hlt
      have hdr := drop_at M k hlt
      rw [hdr] at hf hsum
      have hsum2 : (t : Int) + ((M.at k).2 + sumN (M.drop (k + 1))) = m + sumN M := hsum
      obtain ⟨a, ha⟩ : ∃ a, a = (M.at k).1 := ⟨_, rfl⟩
      obtain ⟨q, hq⟩ : ∃ q, q = (M.at k).2 := ⟨_, rfl⟩
      have hf2 : catF m M = if chk a q ≠ 0 then 2 else if 1048576 < (t : Int) + q then 8 else catF (t + q) (M.drop (k + 1)) := by rw [hf, ha, hq]; rfl
      rw [← ha] at d0 hsz
      rw [← hq] at d1 hsum2
      have HSUM := Lib.hid hsum2
      clear hsum hsum2
      have HF := Lib.hid hf2; have HB0 := Lib.hid hb0; have HB1 := Lib.hid hb1; have HBL := Lib.hid hbl
      clear hf hf2 hdr ha hq
      have e0 := hb0.c0; have e1 := hb0.c1
      clear hb0 hb1 hbl
      go_wp2_with fail
      refine (check_any a q _ hsz).mono ?_
      rintro e w2 ⟨rfl, b2⟩
      have y0 := (HB0.out.alloc (.cells #[.string a, .int .i64 q] 35)).below b2
      have y1 := (HB1.out.alloc (.cells #[.string a, .int .i64 q] 35)).below b2
      have ym := (Box.new wr a q).below b2
      have BL2 := Lib.hid ((HBL.out.alloc HBL.out.size (.cells #[.string a, .int .i64 q] 35)).trans (b2.mono (by have := HBL.out.size; simp; omega)))
      have f0 := y0.c0; have f1 := y0.c1; have g0 := ym.c0; have g1 := ym.c1
      have Y0 := Lib.hid y0; have Y1 := Lib.hid y1
      clear y0 y1 ym b2 HB0 HB1 HBL e0 e1 d0 d1
      rcases chk_cases a q with h0 | h2
      case inr =>
        rw [h2]
        have FS : Hid (catS s m M = s ∧ catN s m M = m ∧ catE s m M = 2) := by
          have hc := HC.out
          have e : catF m M = 2 := by rw [HF.out, if_pos (by omega)]
          exact Lib.hid ⟨by unfold catS; rw [if_neg (by omega), if_neg (by omega)], by unfold catN; rw [if_neg (by omega), if_neg (by omega)], by unfold catE; rw [if_neg (by omega), e]⟩
        go_wp2_with fail
        refine (same_any s m _ (by omega)).mono ?_
        rintro e w3 ⟨rfl, b3⟩
        have b4 := BL2.out.trans (b3.mono BL2.out.size)
        have x1 := Y1.out.below b3
        have q0 := x1.c0; have q1 := x1.c1; have p0 := x1.f0; have p1 := x1.f1
        have x2 := x1.set s m
        have b5 := Lib.hid ((b4.setCell (p := ⟨w.heap.size + 1, 0, none⟩) (Nat.le_succ _) (.string s)).setCell (p := ⟨w.heap.size + 1, 1, none⟩) (Nat.le_succ _) (.int .i64 m))
        have z0 := Lib.hid x2.c0; have z1 := Lib.hid x2.c1
        clear b3 b4 x1 x2 f0 f1 g0 g1
        go_wp2_with fail
        refine bodyPost_ret (v := .tuple #[.agg #[.string s, .int .i64 m], .int .i64 2]) (by simp [results, Try.results43, go_sem, z0.out, z1.out]) rfl ⟨ret_bit FS.out.1.symm FS.out.2.1.symm FS.out.2.2.symm, b5.out⟩
      rw [h0]
      have hRa := chk_zero h0
      obtain ⟨q, rfl⟩ := Int.eq_ofNat_of_zero_le hRa.1
      have hq9 : q ≤ 1048576 := by have := hRa.2.1; omega
      by_cases hov : 1048576 < t + q
      · have FS : Hid (catS s m M = s ∧ catN s m M = m ∧ catE s m M = 8) := by
          have hc := HC.out
          have e : catF m M = 8 := by rw [HF.out, if_neg (by omega), if_pos (by omega)]
          exact Lib.hid ⟨by unfold catS; rw [if_neg (by omega), if_neg (by omega)], by unfold catN; rw [if_neg (by omega), if_neg (by omega)], by unfold catE; rw [if_neg (by omega), e]⟩
        clear h0 hRa
        go_wp2_with fail
        refine (same_any s m _ (by omega)).mono ?_
        rintro e w3 ⟨rfl, b3⟩
        have b4 := BL2.out.trans (b3.mono BL2.out.size)
        have x1 := Y1.out.below b3
        have q0 := x1.c0; have q1 := x1.c1; have p0 := x1.f0; have p1 := x1.f1
        have x2 := x1.set s m
        have b5 := Lib.hid ((b4.setCell (p := ⟨w.heap.size + 1, 0, none⟩) (Nat.le_succ _) (.string s)).setCell (p := ⟨w.heap.size + 1, 1, none⟩) (Nat.le_succ _) (.int .i64 m))
        have z0 := Lib.hid x2.c0; have z1 := Lib.hid x2.c1
        clear b3 b4 x1 x2 f0 f1 g0 g1
        go_wp2_with fail
        refine bodyPost_ret (v := .tuple #[.agg #[.string s, .int .i64 m], .int .i64 8]) (by simp [results, Try.results43, go_sem, z0.out, z1.out]) rfl ⟨ret_bit FS.out.1.symm FS.out.2.1.symm FS.out.2.2.symm, b5.out⟩
      · have hF3 : catF m M = catF ((t + q : Nat) : Int) (M.drop (k + 1)) := by
          rw [HF.out, if_neg (by omega), if_neg (by omega)]; rfl
        have HF3 := Lib.hid hF3
        clear hF3 hRa
        go_wp2_with fail
        go_roundw
        case rel => exact ⟨k + 1, t + q, by omega, by omega, by go_num, by go_num, HF3.out, by have := HSUM.out; omega, by omega, Y0.out, Y1.out, BL2.out⟩
        case measure => simp [intOf]; omega
    · obtain rfl : k = M.length := by omega
      rw [List.drop_length] at hf hsum
      have hf0 : catF m M = 0 := hf
      have hs0 : (t : Int) = m + sumN M := by
        have h : (t : Int) + 0 = m + sumN M := hsum
        omega
      have FS : Hid (catS s m M = packS (bl (bytes s) m ++ catX M) ∧ catN s m M = t ∧ catE s m M = 0) := by
        have hc := HC.out
        exact Lib.hid ⟨by unfold catS; rw [if_neg (by omega), if_pos hf0]; simp, by unfold catN; rw [if_neg (by omega), if_pos hf0, hs0], by unfold catE; rw [if_neg (by omega), hf0]⟩
      have HF0 := Lib.hid hf0; have HS0 := Lib.hid hs0
      have HB1 := Lib.hid hb1; have HBL := Lib.hid hbl
      have c0 := hb0.c0; have c1 := hb0.c1
      have hsz : Hid (s.size = (m + 7) / 8) := Lib.hid (by have := HRR.out.2.2.1; rw [bytes_len] at this; simpa using this)
      clear hf hsum hf0 hs0 hb0 hb1 hbl
      go_wp2_with fail
      refine (begin_any s m t (by omega) (by omega) (by have := hsz.out; omega) _ wr.heap.size (by exact Nat.le_refl _)).mono ?_
      rintro e w2 ⟨pp, rfl, hwk, b2⟩
      have y1 := HB1.out.below b2
      have BL2 := Lib.hid (HBL.out.trans (b2.mono HBL.out.size))
      have Y1 := Lib.hid y1; have WK := Lib.hid hwk; have hz2 := b2.size; have hz1 := HB1.out.lt
      clear hwk y1 b2 c0 c1
      go_wp2_with fail
      obtain ⟨BB, hBB⟩ : ∃ BB, BB = wr.heap.size := ⟨_, rfl⟩
      rw [← hBB] at WK hz2
      have hwB : w.heap.size + 1 < BB := by omega
      have HPK2 : Hid (Packs (bytes s) (bl (bytes s) m)) := Lib.hid (by have h := HPK.out; rw [Int.toNat_natCast] at h; exact h)
      go_loopw [13, 49] (fun _ i wq => ∃ (k u : Nat) (L : List UInt8) (X : List Bool), k ≤ M.length ∧ i = .int .i64 k ∧ u ≤ 1048576 ∧ catF u (M.drop k) = 0 ∧ (u : Int) + sumN (M.drop k) = t ∧ X.length = u ∧ Work wq BB pp L (X.length : Nat) ∧ Packs L X ∧ X ++ catX (M.drop k) = bl (bytes s) m ++ catX M ∧ Box wq (w.heap.size + 1) ⟨#[]⟩ 0 ∧ Below w.heap.size w wq ∧ BB ≤ wq.heap.size) (fun _ i _ => M.length - (intOf i).toNat)
      case atStart => exact ⟨0, m, bytes s, bl (bytes s) m, by omega, rfl, hm, by rw [List.drop_zero]; exact HF0.out, by rw [List.drop_zero]; exact HS0.out.symm, bl_length _ _, by rw [bl_length]; exact WK.out, HPK2.out, by rw [List.drop_zero], Y1.out, BL2.out, hz2⟩
      case round =>
        obtain ⟨k, u, L, X, hk2, rfl, hu, hf, hsum, hXl, hwk, hpk, hcx, hb1, hbl, hBq⟩ := hrel
        by_cases hlt2 : k < M.length
        · obtain ⟨g, o, rfl, hg, d0, d1, hsz2⟩ := (HM.out.below hbl) k hlt2
          have hdr := drop_at M k hlt2
          rw [hdr] at hf hsum hcx
          have hf3 := catF_cons hf
          have hsum2 : (u : Int) + ((M.at k).2 + sumN (M.drop (k + 1))) = t := hsum
          rw [catX_cons] at hcx
          obtain ⟨a, ha⟩ : ∃ a, a = (M.at k).1 := ⟨_, rfl⟩
          obtain ⟨q, hq⟩ : ∃ q, q = (M.at k).2 := ⟨_, rfl⟩
          rw [← ha] at d0 hsz2 hf3 hcx
          rw [← hq] at d1 hsum2 hf3 hcx
          have hRa := chk_zero hf3.1
          have hpa := hRa.packs
          obtain ⟨q, rfl⟩ := Int.eq_ofNat_of_zero_le hRa.1
          rw [Int.toNat_natCast] at hpa hcx
          have hq9 : q ≤ 1048576 := by have := hRa.2.1; omega
          have huq : u + q ≤ 1048576 := by have := hf3.2.1; omega
          have HF4 : Hid (catF ((u + q : Nat) : Int) (M.drop (k + 1)) = 0) := Lib.hid hf3.2.2
          have HS4 : Hid (((u + q : Nat) : Int) + sumN (M.drop (k + 1)) = t) := Lib.hid (by omega)
          have ym := Box.new wr a q
          have g0 := ym.c0; have g1 := ym.c1
          have HPA := Lib.hid hpa; have HCX := Lib.hid hcx; have HXL := Lib.hid hXl; have HWK := Lib.hid hwk; have HPX := Lib.hid hpk
          have HY := Lib.hid (hb1.alloc (.cells #[.string a, .int .i64 q] 35)); have HBL4 := Lib.hid (hbl.alloc hbl.size (.cells #[.string a, .int .i64 q] 35))
          clear hf hsum hdr hf3 hsum2 ha hq hRa hpa hcx hXl hwk hpk hb1 hbl ym
          go_wp2_with fail
          refine (gather_any pp a q (bl (bytes a) q) HPA.out (by rw [bl_length]; omega) 0 q (by rw [bl_length]; omega) L X _ BB (HWK.out.alloc _) HPX.out (by have := HXL.out; omega) (by simp; omega)).mono ?_
          rintro e w3 ⟨rfl, ⟨L2, wk2, pk2⟩, b3, _⟩
          have en : X ++ ((bl (bytes a) q).drop 0).take q = X ++ bl (bytes a) q := by rw [List.drop_zero, List.take_of_length_le (by rw [bl_length]; exact Nat.le_refl _)]
          rw [en] at pk2
          have hl2 : (X ++ bl (bytes a) q).length = X.length + q := by rw [List.length_append, bl_length]
          have WK2 := Lib.hid wk2; have PK2 := Lib.hid pk2; have HL2 := Lib.hid hl2
          have HY2 := Lib.hid (HY.out.belowB b3 hwB)
          have BL4 := Lib.hid (HBL4.out.trans (b3.mono (by omega)))
          have hB4 : BB ≤ w3.heap.size := Nat.le_trans (by simp; omega) b3.size
          clear wk2 pk2 en hl2 b3 g0 g1
          go_wp2_with fail
          go_roundw
          case rel => exact ⟨k + 1, u + q, L2, X ++ bl (bytes a) q, by omega, by go_num, huq, HF4.out, HS4.out, by rw [HL2.out, HXL.out], by rw [HL2.out]; exact WK2.out, PK2.out, by rw [List.append_assoc]; exact HCX.out, HY2.out, BL4.out, hB4⟩
          case measure => simp [intOf]; omega
        · obtain rfl : k = M.length := by omega
          rw [List.drop_length] at hf hsum hcx
          have hut : (u : Int) = t := by
            have h : (u : Int) + 0 = t := hsum
            omega
          have hcx2 : X = bl (bytes s) m ++ catX M := by
            have h : X ++ [] = bl (bytes s) m ++ catX M := hcx
            rwa [List.append_nil] at h
          have hLl : L.length ≤ 200000 := by rw [hpk.1]; omega
          have hpe := hpk.eq
          rw [hcx2] at hpe
          rw [hXl] at hwk
          have HWK := Lib.hid hwk; have HPE := Lib.hid hpe; have HB2 := Lib.hid hb1; have HBL2 := Lib.hid hbl; have HUT := Lib.hid hut
          clear hf hsum hcx hut hcx2 hpe hwk hb1 hbl hpk
          go_wp2_with fail
          refine (done_any pp L _ _ BB HWK.out hLl hBq).mono ?_
          rintro e w4 ⟨rfl, b4⟩
          have x5 := HB2.out.belowB b4 hwB
          have q0 := x5.c0; have q1 := x5.c1; have p0 := x5.f0; have p1 := x5.f1
          obtain ⟨S, hS⟩ : ∃ S : ByteArray, S = ⟨L.toArray⟩ := ⟨_, rfl⟩
          rw [← hS]
          have FS2 : Hid (catS s m M = S ∧ catN s m M = u) := Lib.hid ⟨by rw [FS.out.1, hS, HPE.out]; rfl, by rw [FS.out.2.1, HUT.out]⟩
          have x6 := x5.set S u
          have z0 := Lib.hid x6.c0; have z1' := Lib.hid x6.c1
          have b6 := Lib.hid (((HBL2.out.trans (b4.mono (by omega))).setCell (p := ⟨w.heap.size + 1, 0, none⟩) (Nat.le_succ _) (.string S)).setCell (p := ⟨w.heap.size + 1, 1, none⟩) (Nat.le_succ _) (.int .i64 u))
          clear b4 x5 x6 hS
          go_wp2_with fail
          refine bodyPost_ret (v := .tuple #[.agg #[.string S, .int .i64 u], .int .i64 0]) (by simp [results, Try.results43, go_sem, z0.out, z1'.out]) rfl ⟨ret_bit FS2.out.1.symm FS2.out.2.symm FS.out.2.2.symm, b6.out⟩
end Go.Proofs.Ytjnehpkkkmicfaa.Bt
