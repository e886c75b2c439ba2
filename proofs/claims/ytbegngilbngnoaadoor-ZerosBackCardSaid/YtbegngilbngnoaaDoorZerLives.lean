/- The walk of zeros' lives. -/
import Derived.Test.YtbegngilbngnoaaDoorZerProg
namespace Go.Proofs.YtbegngilbngnoaaDoor.Ze
open Go.RowKit Go.Lib Rw Ls Od _root_.Go.Proofs.YtbegngilbngnoaaDoor.Nm

theorem dg4 : dg 4 = [1, 0] := by
  rw [dg_even (by decide) (by decide), show (4 - 2) / 2 = 1 from rfl, dg_odd (by decide), show (1 - 1) / 2 = 0 from rfl, dg_zero]
theorem en_eg : enL (bsN ⟨#[0, 0, 0, 7]⟩) = [0, 0, 8, 257] ∧ enE (bsN ⟨#[0, 0, 0, 7]⟩) = 0 := by
  rw [show bsN ⟨#[0, 0, 0, 7]⟩ = [0, 0, 0, 7] from rfl]
  unfold enL enE
  rw [if_pos (by decide), if_pos (by decide)]
  refine ⟨?_, rfl⟩
  rw [encR, if_pos rfl, encR, if_pos rfl, encR, if_pos rfl, encR, if_neg (by decide), encR, dg_zero, show 0 + 1 + 1 + 1 = 3 from rfl, dg_odd (by decide), show (3 - 1) / 2 = 1 from rfl, dg_odd (by decide), show (1 - 1) / 2 = 0 from rfl, dg_zero]
  rfl
theorem dc_eg : dcA [0, 0, 8, 257, 9] = ([0, 0, 0, 7], 4, 0) ∧ dcA [0] = ([], 0, 5) ∧ dcA [300] = ([], 0, 7) := ⟨by kernel_rfl, by kernel_rfl, by kernel_rfl⟩
theorem nu_eg : numR [1, 0] = (4, 0) := by decide
theorem dl_eg : dgL 4 = [1, 0] ∧ dgE 4 = 0 := ⟨by rw [show dgL 4 = dg 4 from if_pos (by decide), dg4], if_pos (by decide)⟩
theorem nums_ones (L : List Nat) : ∀ u ∈ nums L, u.oneCell' = true := nums_one L
set_option maxHeartbeats 4000000 in
set_option maxRecDepth 100000 in
theorem lives_any (w : World) : Calls Tryd.prog 12 #[] w fun e w' => e = .returned (.bool true) ∧ Below w.heap.size w w' := by
  obtain ⟨i0, hi0, hz0, hz1, hz2⟩ := info_parts info_u64
  have CE : Hid (∀ W, Calls Tryd.prog 8 #[.string ⟨#[0, 0, 0, 7]⟩] W (NEn W 4 [0, 0, 8, 257] 0)) := Lib.hid (fun W => by
    have h := pencode_any ⟨#[0, 0, 0, 7]⟩ W
    rw [en_eg.1, en_eg.2] at h
    exact nen_of rfl h)
  have CD : Hid (∀ q c W, Rd W q (nums [0, 0, 8, 257, 9]) → 5 ≤ c → Calls Tryd.prog 10 #[.slice q 5 c] W fun e w' => e = .returned (.tuple #[.string ⟨#[0, 0, 0, 7]⟩, .int .i64 4, .int .i64 0]) ∧ Below W.heap.size W w') := Lib.hid (fun q c W h1 h0 => by
    have h := pdecode_any [0, 0, 8, 257, 9] q c W h1 h0 (by decide)
    rw [dc_eg.1] at h
    exact h)
  have C5 : Hid (∀ q c W, Rd W q (nums [0]) → 1 ≤ c → Calls Tryd.prog 10 #[.slice q 1 c] W fun e w' => e = .returned (.tuple #[.string ⟨#[]⟩, .int .i64 0, .int .i64 5]) ∧ Below W.heap.size W w') := Lib.hid (fun q c W h1 h0 => by
    have h := pdecode_any [0] q c W h1 h0 (by decide)
    rw [dc_eg.2.1] at h
    exact h)
  have C6 : Hid (∀ q c W, Rd W q (nums [300]) → 1 ≤ c → Calls Tryd.prog 10 #[.slice q 1 c] W fun e w' => e = .returned (.tuple #[.string ⟨#[]⟩, .int .i64 0, .int .i64 7]) ∧ Below W.heap.size W w') := Lib.hid (fun q c W h1 h0 => by
    have h := pdecode_any [300] q c W h1 h0 (by decide)
    rw [dc_eg.2.2] at h
    exact h)
  have CG : Hid (∀ W, Calls Tryd.prog 14 #[.int .u64 4] W (NEn W 2 [1, 0] 0)) := Lib.hid (fun W => by
    have h := pdigits_any 4 W
    rw [dl_eg.1, dl_eg.2] at h
    exact nen_of rfl h)
  have CN : Hid (∀ q c W, Rd W q (nums [1, 0]) → Calls Tryd.prog 16 #[.slice q 2 c] W fun e w' => e = .returned (.tuple #[.int .u64 4, .int .i64 0]) ∧ Below W.heap.size W w') := Lib.hid (fun q c W h1 => by
    have h := pnumber_any [1, 0] q c W h1 (by decide)
    rw [nu_eg] at h
    exact h)
  have CS : Hid (∀ (L : List Nat) (n : Nat), L.length = n → n ≤ 6 → ∀ p c q d W, Rd W p (nums L) → Rd W q (nums L) → Calls Tryd.prog 13 #[.slice p n c, .slice q n d] W fun e w' => e = .returned (.bool true) ∧ Below W.heap.size W w') := Lib.hid (fun L n hl hn p c q d W h1 h2 => by
    subst hl
    refine (sameOne_any L L p q c d W h1 h2 (by omega) (by omega)).mono ?_
    rintro e w' ⟨h, j, h2⟩
    exact ⟨by rw [h, decide_eq_true rfl], by rw [h2]; exact below_drewN (Below.refl _ _) j⟩)
  have B : Hid (Below w.heap.size w w) := Lib.hid (Below.refl _ _)
  go_enter Tryd.func12, Tryd.ntmps12
  go_wp2_with fail
  refine (CE.out _).mono ?_
  rintro e w0 ⟨q1, c1, rfl, hc1, r1, b⟩
  replace B := Lib.hid (B.out.trans (b.mono B.out.size))
  have R1 := Lib.hid r1
  clear b r1
  have HB1 := Lib.hid (World.ownsRow_lit (e := 31) (base := w0.heap.size) (size := 1) w0 #[] 0 (Nat.le_refl _) (by decide) rfl)
  have HR1 := Lib.hid (R1.out.alloc (.cells #[] 31))
  have hm1 : 0 + 4 ≤ maxLen := by unfold maxLen; omega
  have hm2 : 4 + 1 ≤ maxLen := by unfold maxLen; omega
  have HON : Hid (∀ u ∈ [Value.int .u64 9], u.oneCell' = true) := Lib.hid (by intro u hu; rw [List.mem_singleton] at hu; rw [hu]; rfl)
  go_wp2_with (at_builtin; refine wpList_app rfl _ _ 22 rfl w0.heap.size 31 i0 (.int .u64 0) 1 8 Tryd.underlying22 hi0 hz0 hz1 hz2 rfl (by decide) _ 0 [] rfl q1 4 c1 (nums [0, 0, 8, 257]) rfl rfl (nums_one _) hm1 (by omega) HB1.out HR1.out (by simp) ?_)
  intro v2 w2 hown2 _ hb2 _
  have HO2 := Lib.hid (hown2.alloc (.cells #[.int .u64 9] 31))
  have b2 : Below w0.heap.size w0 w2 := ((Below.refl _ w0).alloc (Nat.le_refl _) _).trans hb2
  have hs2 := b2.size
  have b3 : Below w0.heap.size w0 (w2.alloc (.cells #[.int .u64 9] 31)) := b2.alloc hs2 _
  have HB3 := Lib.hid b3
  clear hown2 hb2 b2 b3 HR1 HB1
  go_wp2_with (at_builtin; refine wpList_app rfl _ _ 22 rfl w0.heap.size 31 i0 (.int .u64 0) 1 8 Tryd.underlying22 hi0 hz0 hz1 hz2 rfl (by decide) v2 4 (nums [0, 0, 8, 257]) rfl (some ⟨w2.heap.size, 0, none⟩) 1 1 [.int .u64 9] rfl rfl HON.out hm2 (by omega) HO2.out (Rd.new _ _ _) (by simp; omega) ?_)
  intro v3 w3 hown3 _ hb3 _
  obtain ⟨q3, c3, rfl, hc3, hr3, _⟩ := own_rdN hown3
  have R3 : Hid (Rd w3 q3 (nums [0, 0, 8, 257, 9])) := Lib.hid hr3
  have b := HB3.out.trans hb3
  replace R1 := Lib.hid (R1.out.below b)
  replace B := Lib.hid (B.out.trans (b.mono B.out.size))
  clear hown3 hb3 hr3 HO2 b HB3 hs2 hm1 hm2 HON
  go_wp2_with fail
  refine (CD.out _ _ _ R3.out (by omega)).mono ?_
  rintro e w4 ⟨rfl, b⟩
  replace R1 := Lib.hid (R1.out.below b)
  replace B := Lib.hid (B.out.trans (b.mono B.out.size))
  clear b
  clear R3
  go_wp2_with fail
  refine (CG.out _).mono ?_
  rintro e w5 ⟨q5, c5, rfl, hc5, r5, b⟩
  replace R1 := Lib.hid (R1.out.below b)
  replace B := Lib.hid (B.out.trans (b.mono B.out.size))
  have R5 := Lib.hid r5
  clear b r5
  go_wp2_with fail
  refine (CN.out _ _ _ (Rd.new _ #[.int .u64 1, .int .u64 0] _)).mono ?_
  rintro e w6 ⟨rfl, b⟩
  replace R1 := Lib.hid ((R1.out.alloc _).below b)
  replace R5 := Lib.hid ((R5.out.alloc _).below b)
  replace B := Lib.hid ((B.out.alloc (B.out.size) _).trans (b.mono (B.out.alloc (B.out.size) _).size))
  clear b
  go_wp2_with fail
  refine (C5.out _ _ _ (Rd.new _ #[.int .u64 0] _) (Nat.le_refl _)).mono ?_
  rintro e w7 ⟨rfl, b⟩
  replace R1 := Lib.hid ((R1.out.alloc _).below b)
  replace R5 := Lib.hid ((R5.out.alloc _).below b)
  replace B := Lib.hid ((B.out.alloc (B.out.size) _).trans (b.mono (B.out.alloc (B.out.size) _).size))
  clear b
  go_wp2_with fail
  refine (C6.out _ _ _ (Rd.new _ #[.int .u64 300] _) (Nat.le_refl _)).mono ?_
  rintro e w8 ⟨rfl, b⟩
  replace R1 := Lib.hid ((R1.out.alloc _).below b)
  replace R5 := Lib.hid ((R5.out.alloc _).below b)
  replace B := Lib.hid ((B.out.alloc (B.out.size) _).trans (b.mono (B.out.alloc (B.out.size) _).size))
  clear b
  go_wp2_with fail
  refine (CS.out [0, 0, 8, 257] 4 rfl (by omega) _ _ _ _ _ (R1.out.alloc _) (Rd.new _ #[.int .u64 0, .int .u64 0, .int .u64 8, .int .u64 257] _)).mono ?_
  rintro e w9 ⟨rfl, b⟩
  replace R1 := Lib.hid ((R1.out.alloc _).below b)
  replace R5 := Lib.hid ((R5.out.alloc _).below b)
  replace B := Lib.hid ((B.out.alloc (B.out.size) _).trans (b.mono (B.out.alloc (B.out.size) _).size))
  clear b
  go_wp2_with fail
  refine (CS.out [1, 0] 2 rfl (by omega) _ _ _ _ _ (R5.out.alloc _) (Rd.new _ #[.int .u64 1, .int .u64 0] _)).mono ?_
  rintro e w10 ⟨rfl, b⟩
  replace R1 := Lib.hid ((R1.out.alloc _).below b)
  replace R5 := Lib.hid ((R5.out.alloc _).below b)
  replace B := Lib.hid ((B.out.alloc (B.out.size) _).trans (b.mono (B.out.alloc (B.out.size) _).size))
  clear b
  go_wp2_with fail
  go_ret
  exact ⟨rfl, B.out⟩
end Go.Proofs.YtbegngilbngnoaaDoor.Ze
