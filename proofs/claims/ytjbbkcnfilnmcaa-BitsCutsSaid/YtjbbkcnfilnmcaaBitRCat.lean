/- The walk of the document's Cat. -/
import Derived.Test.YtjbbkcnfilnmcaaBitCat
import Derived.Test.YtjbbkcnfilnmcaaBitROnes
import Derived.Test.YtjbbkcnfilnmcaaRow
namespace Go.Proofs.Ytjbbkcnfilnmcaa.Bt
open Go.RowKit

theorem bools_app (X Y : List Bool) : bools (X ++ Y) = bools X ++ bools Y := by simp [bools]

set_option maxHeartbeats 8000000 in
set_option maxRecDepth 100000 in
theorem rcat_any (s : ByteArray) (n : Int) (p : Option Addr) (cap : Nat) (M : Many) (w : World) (hs : s.size ≤ maxLen) (hM : ManyAt w p M) (hMl : M.length ≤ maxLen) :
    Calls Try.prog 11 #[.agg #[.string s, .int .i64 n], .slice p M.length cap] w fun e w' => e = .returned (.tuple #[.agg #[.string (catS s n M), .int .i64 (catN s n M)], .int .i64 (catE s n M)]) ∧ Below w.heap.size w w' := by
  have hbx : Below w.heap.size w ((w.alloc (.cells #[.string s, .int .i64 n] 23)).alloc (.cells #[.string ⟨#[]⟩, .int .i64 0] 23)) := ((Below.refl _ _).alloc (Nat.le_refl _) _).alloc (by simp) _
  unfold maxLen at hMl
  obtain ⟨i0, hi, hz0, hz1, hz2⟩ := info_parts info_bool
  have HM := Lib.hid hM
  clear hM
  rcases chk_cases s n with hc | hc
  case inr =>
    have FS : Hid (catS s n M = ⟨#[]⟩ ∧ catN s n M = 0 ∧ catE s n M = 2) := Lib.hid ⟨if_pos (by omega), if_pos (by omega), if_pos (by omega)⟩
    go_enter Try.func11, Try.ntmps11
    go_wp2_with fail
    refine (rcheck_any _ _ _ hs).mono ?_
    rintro e w1 ⟨rfl, b1⟩
    have x0 := (box_end b1).1; have x1 := (box_end b1).2
    have c0 := x0.c0; have c1 := x0.c1
    have q0 := x1.c0; have q1 := x1.c1; have p0 := x1.f0; have p1 := x1.f1
    have x2 := x1.set ⟨#[]⟩ 0
    have b2 := hbx.trans (b1.mono (by simp; omega))
    have b3 := Lib.hid ((b2.setCell (p := ⟨w.heap.size + 1, 0, none⟩) (Nat.le_succ _) (.string ⟨#[]⟩)).setCell (p := ⟨w.heap.size + 1, 1, none⟩) (Nat.le_succ _) (.int .i64 0))
    have z0 := Lib.hid x2.c0; have z1 := Lib.hid x2.c1
    rw [hc]
    clear b1 b2 x0 x1 x2
    go_wp2_with fail
    refine bodyPost_ret (v := .tuple #[.agg #[.string ⟨#[]⟩, .int .i64 0], .int .i64 2]) (by simp [results, Try.results11, go_sem, z0.out, z1.out]) rfl ⟨ret_bit FS.out.1.symm FS.out.2.1.symm FS.out.2.2.symm, b3.out⟩
  have hR := chk_zero hc
  have hsm := size_small hR
  have hpk := hR.packs
  obtain ⟨m, rfl⟩ := Int.eq_ofNat_of_zero_le hR.1
  have hm : m ≤ 1048576 := by have := hR.2.1; omega
  rw [Int.toNat_natCast] at hpk
  have HC := Lib.hid hc; have HPK := Lib.hid hpk; have HRR := Lib.hid hR
  clear hR hpk
  go_enter Try.func11, Try.ntmps11
  go_wp2_with fail
  refine (rcheck_any _ _ _ hs).mono ?_
  rintro e w1 ⟨rfl, b1⟩
  have x0 := (box_end b1).1; have x1 := (box_end b1).2
  have c0 := x0.c0; have c1 := x0.c1
  have X0 := Lib.hid x0; have X1 := Lib.hid x1
  have hw2 : w.heap.size + 2 ≤ w1.heap.size := by have := b1.size; simp at this; omega
  have B1 := Lib.hid (hbx.trans (b1.mono (by simp; omega)))
  rw [hc]
  clear b1 x0 x1 hc
  go_wp2_with fail
  refine (all_of s (bl (bytes s) m) m (bl_length _ _) HPK.out hm _ (w.heap.size + 2) hw2).mono ?_
  rintro e w2 ⟨v0, rfl, hown, b2⟩
  have Y0 := Lib.hid (X0.out.below b2); have Y1 := Lib.hid (X1.out.below b2)
  have B2 := Lib.hid (B1.out.trans (b2.mono B1.out.size)); have HO := Lib.hid hown
  have hw3 : w.heap.size + 2 ≤ w2.heap.size := by have := b2.size; omega
  clear b2 X0 X1 B1 hown c0 c1
  go_wp2_with fail
  go_loopw [6, 8, 17] (fun u _ i wr => ∃ (k t : Nat) (X : List Bool), k ≤ M.length ∧ t ≤ 1048576 ∧ i = .int .i64 k ∧ X.length = t ∧ wr.ownsRow (w.heap.size + 2) 4 1 u t (bools X) ∧ catF m M = catF t (M.drop k) ∧ (t : Int) + sumN (M.drop k) = m + sumN M ∧ X ++ catX (M.drop k) = bl (bytes s) m ++ catX M ∧ Box wr w.heap.size s m ∧ Box wr (w.heap.size + 1) ⟨#[]⟩ 0 ∧ Below w.heap.size w wr) (fun _ _ i _ => M.length - (intOf i).toNat)
  case atStart => exact ⟨0, m, bl (bytes s) m, by omega, hm, rfl, bl_length _ _, HO.out, by rw [List.drop_zero], by rw [List.drop_zero], by rw [List.drop_zero], Y0.out, Y1.out, B2.out⟩
  case round =>
    obtain ⟨k, t, X, hk, ht, rfl, hXl, hown, hf, hsum, hcx, hb0, hb1, hbl⟩ := hrel
    by_cases hlt : k < M.length
    · obtain ⟨g, o, rfl, hg, d0, d1, hsz⟩ := (HM.out.below hbl) k hlt
      have hdr := drop_at M k hlt
      rw [hdr] at hf hsum hcx
      have hsum2 : (t : Int) + ((M.at k).2 + sumN (M.drop (k + 1))) = m + sumN M := hsum
      rw [catX_cons] at hcx
      obtain ⟨a, ha⟩ : ∃ a, a = (M.at k).1 := ⟨_, rfl⟩
      obtain ⟨q, hq⟩ : ∃ q, q = (M.at k).2 := ⟨_, rfl⟩
      have hf2 : catF m M = if chk a q ≠ 0 then 2 else if 1048576 < (t : Int) + q then 8 else catF (t + q) (M.drop (k + 1)) := by rw [hf, ha, hq]; rfl
      rw [← ha] at d0 hsz hcx
      rw [← hq] at d1 hsum2 hcx
      have HSUM := Lib.hid hsum2
      clear hsum hsum2
      have HF := Lib.hid hf2; have HB0 := Lib.hid hb0; have HB1 := Lib.hid hb1; have HBL := Lib.hid hbl; have HOWN := Lib.hid hown; have HXL := Lib.hid hXl; have HCX := Lib.hid hcx
      have e0 := hb0.c0; have e1 := hb0.c1
      have hz1' := hb1.lt
      clear hf hf2 hdr ha hq hown hXl hcx
      clear hb0 hb1 hbl
      go_wp2_with fail
      refine (rcheck_any a q _ hsz).mono ?_
      rintro e w2 ⟨rfl, b2⟩
      have y0 := (HB0.out.alloc (.cells #[.string a, .int .i64 q] 23)).below b2
      have y1 := (HB1.out.alloc (.cells #[.string a, .int .i64 q] 23)).below b2
      have ym := (Box.new wr a q).below b2
      have ow := owns_below HOWN.out ((((Below.refl _ wr).alloc (Nat.le_refl _) (.cells #[.string a, .int .i64 q] 23))).trans (b2.mono (by simp)))
      have BL2 := Lib.hid ((HBL.out.alloc HBL.out.size (.cells #[.string a, .int .i64 q] 23)).trans (b2.mono (by have := HBL.out.size; simp; omega)))
      have f0 := y0.c0; have f1 := y0.c1; have g0 := ym.c0; have g1 := ym.c1
      have q0 := y1.c0; have q1 := y1.c1; have p0 := y1.f0; have p1 := y1.f1
      have Y0 := Lib.hid y0; have Y1 := Lib.hid y1; have YM := Lib.hid ym; have OW := Lib.hid ow
      clear y0 y1 ym ow b2 HB0 HB1 HBL HOWN e0 e1 d0 d1
      rcases chk_cases a q with h0 | h2
      case inr =>
        rw [h2]
        have FS : Hid (catS s m M = s ∧ catN s m M = m ∧ catE s m M = 2) := by
          have hc := HC.out
          have e : catF m M = 2 := by rw [HF.out, if_pos (by omega)]
          exact Lib.hid ⟨by unfold catS; rw [if_neg (by omega), if_neg (by omega)], by unfold catN; rw [if_neg (by omega), if_neg (by omega)], by unfold catE; rw [if_neg (by omega), e]⟩
        have x2 := Y1.out.set s m
        have b5 := Lib.hid ((BL2.out.setCell (p := ⟨w.heap.size + 1, 0, none⟩) (Nat.le_succ _) (.string s)).setCell (p := ⟨w.heap.size + 1, 1, none⟩) (Nat.le_succ _) (.int .i64 m))
        have z0 := Lib.hid x2.c0; have z1 := Lib.hid x2.c1
        clear x2
        go_wp2_with fail
        refine bodyPost_ret (v := .tuple #[.agg #[.string s, .int .i64 m], .int .i64 2]) (by simp [results, Try.results11, go_sem, z0.out, z1.out]) rfl ⟨ret_bit FS.out.1.symm FS.out.2.1.symm FS.out.2.2.symm, b5.out⟩
      rw [h0]
      have hRa := chk_zero h0
      obtain ⟨q, rfl⟩ := Int.eq_ofNat_of_zero_le hRa.1
      have hq9 : q ≤ 1048576 := by have := hRa.2.1; omega
      have hpa := hRa.packs
      rw [Int.toNat_natCast] at hpa
      have HPA := Lib.hid hpa
      clear hpa
      by_cases hov : 1048576 < t + q
      · have FS : Hid (catS s m M = s ∧ catN s m M = m ∧ catE s m M = 8) := by
          have hc := HC.out
          have e : catF m M = 8 := by rw [HF.out, if_neg (by omega), if_pos (by omega)]
          exact Lib.hid ⟨by unfold catS; rw [if_neg (by omega), if_neg (by omega)], by unfold catN; rw [if_neg (by omega), if_neg (by omega)], by unfold catE; rw [if_neg (by omega), e]⟩
        obtain ⟨pu, cu, rfl, _⟩ := row_bools OW.out HXL.out
        have x2 := Y1.out.set s m
        have b5 := Lib.hid ((BL2.out.setCell (p := ⟨w.heap.size + 1, 0, none⟩) (Nat.le_succ _) (.string s)).setCell (p := ⟨w.heap.size + 1, 1, none⟩) (Nat.le_succ _) (.int .i64 m))
        have z0 := Lib.hid x2.c0; have z1 := Lib.hid x2.c1
        have tt : decide ((1048576 : Int) - (q : Int) < (t : Int)) = true := decide_eq_true (by omega)
        clear x2 h0 hRa
        go_wp2_with fail
        refine bodyPost_ret (v := .tuple #[.agg #[.string s, .int .i64 m], .int .i64 8]) (by simp [results, Try.results11, go_sem, z0.out, z1.out]) rfl ⟨ret_bit FS.out.1.symm FS.out.2.1.symm FS.out.2.2.symm, b5.out⟩
      · have hF3 : catF m M = catF ((t + q : Nat) : Int) (M.drop (k + 1)) := by
          rw [HF.out, if_neg (by omega), if_neg (by omega)]; rfl
        have HF3 := Lib.hid hF3
        have tt : decide ((1048576 : Int) - (q : Int) < (t : Int)) = false := decide_eq_false (by omega)
        obtain ⟨pu, cu, rfl, _⟩ := row_bools OW.out HXL.out
        have hwB : w.heap.size + 2 ≤ w2.heap.size := by have := OW.out; have := BL2.out.size; have := Y1.out.lt; omega
        clear hF3 hRa h0
        go_wp2_with fail
        refine (all_of a (bl (bytes a) q) q (bl_length _ _) HPA.out hq9 _ w2.heap.size (Nat.le_refl _)).mono ?_
        rintro e w3 ⟨v3, rfl, hown3, b3⟩
        have hO := owns_below OW.out b3
        have hY0 := Y0.out.below b3; have hY1 := Y1.out.below b3
        have hBL3 := BL2.out.trans (b3.mono BL2.out.size)
        have hwB3 : w.heap.size + 2 ≤ w3.heap.size := Nat.le_trans hwB b3.size
        have hqb : (q : Nat) ≤ 1048576 := hq9
        obtain ⟨pv, cv, hv3, hrd⟩ := row_bools hown3 (bl_length _ _)
        subst hv3
        have HO3 := Lib.hid hO; have HV3 := Lib.hid hown3; have HY0 := Lib.hid hY0; have HY1 := Lib.hid hY1; have HBL3 := Lib.hid hBL3
        have HX2 : Hid ((X ++ bl (bytes a) q).length = t + q) := Lib.hid (by rw [List.length_append, bl_length, HXL.out])
        have HCX2 : Hid ((X ++ bl (bytes a) q) ++ catX (M.drop (k + 1)) = bl (bytes s) m ++ catX M) := Lib.hid (by rw [List.append_assoc]; have h := HCX.out; rw [Int.toNat_natCast] at h; exact h)
        have HS4 : Hid (((t + q : Nat) : Int) + sumN (M.drop (k + 1)) = m + sumN M) := Lib.hid (by have := HSUM.out; omega)
        clear hO hown3 hY0 hY1 hBL3 b3 f0 f1 g0 g1 q0 q1 p0 p1 hrd
        go_wp2_with (at_builtin; refine Rw.pushAll rfl _ _ 58 rfl (w.heap.size + 2) 4 i0 (.bool false) 1 1 Try.underlying58 hi hz0 hz1 hz2 rfl (by decide) _ _ _ rfl HO3.out w2.heap.size _ q (bools (bl (bytes a) q)) rfl HV3.out (fun u hu => by obtain ⟨b, _, rfl⟩ := List.mem_map.1 hu; rfl) (by omega) (by omega) (by omega) hwB3 ?_)
        intro v4 w4 hown4 hgrow hgr
        have H1 := Lib.hid (HY0.out.belowB hgr (by omega)); have H2 := Lib.hid (HY1.out.belowB hgr (by omega))
        have H3 : Hid (w4.ownsRow (w.heap.size + 2) 4 1 v4 (t + q) (bools (X ++ bl (bytes a) q))) := Lib.hid (by rw [bools_app]; exact hown4)
        have H4 := Lib.hid (HBL3.out.trans (hgr.mono (by omega)))
        clear hown4 hgrow hgr
        go_wp2_with fail
        go_roundw
        case rel => exact ⟨k + 1, t + q, X ++ bl (bytes a) q, by omega, by omega, by go_num, HX2.out, H3.out, HF3.out, HS4.out, HCX2.out, H1.out, H2.out, H4.out⟩
        case measure => simp [intOf]; omega
    · obtain rfl : k = M.length := by omega
      rw [List.drop_length] at hf hsum hcx
      have hf0 : catF m M = 0 := hf
      have hs0 : (t : Int) = m + sumN M := by
        have h : (t : Int) + 0 = m + sumN M := hsum
        omega
      have hcx2 : X = bl (bytes s) m ++ catX M := by
        have h : X ++ [] = bl (bytes s) m ++ catX M := hcx
        rwa [List.append_nil] at h
      have FS : Hid (catS s m M = packS X ∧ catN s m M = t ∧ catE s m M = 0) := by
        have hc := HC.out
        exact Lib.hid ⟨by unfold catS; rw [if_neg (by omega), if_pos hf0, hcx2]; simp, by unfold catN; rw [if_neg (by omega), if_pos hf0, hs0], by unfold catE; rw [if_neg (by omega), hf0]⟩
      have HO2 := Lib.hid hown; have HXL := Lib.hid hXl; have HB1 := Lib.hid hb1; have HBL := Lib.hid hbl
      clear hf hsum hcx hf0 hs0 hcx2 hown hXl hb0 hb1 hbl
      go_wp2_with fail
      refine (of_of _ (w.heap.size + 2) t X _ HO2.out HXL.out (by omega)).mono ?_
      rintro e w3 ⟨rfl, b3⟩
      have x1 := HB1.out.below b3
      have q0 := x1.c0; have q1 := x1.c1; have p0 := x1.f0; have p1 := x1.f1
      obtain ⟨S, hS⟩ : ∃ S, S = packS X := ⟨_, rfl⟩
      rw [← hS] at FS ⊢
      have x2 := x1.set S t
      have b5 := Lib.hid (((HBL.out.trans (b3.mono HBL.out.size)).setCell (p := ⟨w.heap.size + 1, 0, none⟩) (Nat.le_succ _) (.string S)).setCell (p := ⟨w.heap.size + 1, 1, none⟩) (Nat.le_succ _) (.int .i64 t))
      have z0 := Lib.hid x2.c0; have z1 := Lib.hid x2.c1
      clear b3 x1 x2 hS
      go_wp2_with fail
      refine bodyPost_ret (v := .tuple #[.agg #[.string S, .int .i64 t], .int .i64 0]) (by simp [results, Try.results11, go_sem, z0.out, z1.out]) rfl ⟨ret_bit FS.out.1.symm FS.out.2.1.symm FS.out.2.2.symm, b5.out⟩
end Go.Proofs.Ytjbbkcnfilnmcaa.Bt
