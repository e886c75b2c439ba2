/- The walk of the laws' own examples of layer 3. -/
import Derived.Test.YtjbbkcnfilnmcaaNumRecD
import Derived.Laws.StructEq
namespace Go.Proofs.Ytjbbkcnfilnmcaa.Nm
open Go.RowKit Rw

theorem v1 : putS 300 = ⟨#[0, 0, 0, 1, 44]⟩ ∧ putE 300 = 0 := by decide +kernel
theorem v2 : getN ⟨#[0, 0, 0, 1, 44]⟩ = 300 ∧ getE ⟨#[0, 0, 0, 1, 44]⟩ = 0 := by decide +kernel
theorem sh300 : shortL 300 = [172, 2] := by rw [shortL_hi (by decide), shortL_lo (by decide)]; rfl
theorem v3 : shoS 300 = ⟨#[172, 2]⟩ := by unfold shoS; rw [if_pos (by decide), sh300]; rfl
theorem v4 : rdN [172, 2, 120] = 300 ∧ rdR [172, 2, 120] = [120] ∧ rdE [172, 2, 120] = 0 := by
  have h := rd_short 300 (by decide) [120]
  rw [sh300] at h
  exact ⟨h.2.1, h.2.2, h.1⟩
theorem v5 : recS [1, 2] = ⟨#[0, 0, 0, 0, 1, 0, 0, 0, 0, 2]⟩ ∧ recE [1, 2] = 0 := by decide +kernel
theorem v6 : spE [0, 0, 0, 0, 1, 0, 0, 0, 0, 2, 0, 0, 0, 0, 1, 0, 0, 0, 0, 2] 2 = 0 ∧ (spM [0, 0, 0, 0, 1, 0, 0, 0, 0, 2, 0, 0, 0, 0, 1, 0, 0, 0, 0, 2] 2).length = 2 := by decide +kernel
theorem v7 : putS 1099511627776 = ⟨#[]⟩ ∧ putE 1099511627776 = 1 := by decide +kernel
theorem v8 : rdE [128, 0] = 7 := by
  have c : cnt [128, 0] = 1 := by decide +kernel
  have v : shortV ([128, 0].take 2) = 0 := by decide +kernel
  unfold rdE
  rw [c, if_pos ⟨by decide, by decide⟩, v, shortL_lo (by decide), if_neg (by simp)]
theorem v9 : rdE [128] = 5 := by
  have c : cnt [128] = 1 := by decide +kernel
  unfold rdE
  rw [c, if_neg (by simp), if_pos (by decide)]
theorem c1 : ((⟨#[172, 2]⟩ : ByteArray) ++ (⟨#[120]⟩ : ByteArray)).data.toList = [172, 2, 120] := by decide +kernel
theorem c2 : ((⟨#[0, 0, 0, 0, 1, 0, 0, 0, 0, 2]⟩ : ByteArray) ++ (⟨#[0, 0, 0, 0, 1, 0, 0, 0, 0, 2]⟩ : ByteArray)).data.toList = [0, 0, 0, 0, 1, 0, 0, 0, 0, 2, 0, 0, 0, 0, 1, 0, 0, 0, 0, 2] := by decide +kernel
theorem small {n : Nat} (h : n ≤ 1000) : n ≤ 200000000000000 := by omega

set_option maxHeartbeats 8000000 in
set_option maxRecDepth 100000 in
theorem lives_any (w : World) : Calls Try.prog 23 #[] w fun e w' => e = .returned (.bool true) ∧ Below w.heap.size w w' := by
  go_enter Try.func23, Try.ntmps23
  go_wp2_with fail
  refine (put_any 300 _).mono ?_
  rw [v1.1, v1.2]
  rintro e w1 ⟨rfl, b1⟩
  have B1 := Lib.hid b1; clear b1
  go_wp2_with fail
  refine (get_any _ _).mono ?_
  rw [v2.1, v2.2]
  rintro e w1 ⟨rfl, rfl⟩
  go_wp2_with fail
  refine (short_any 300 _).mono ?_
  rw [v3, v1.2]
  rintro e w2 ⟨rfl, b2⟩
  have B2 := Lib.hid (B1.out.trans (b2.mono B1.out.size)); clear b2 B1
  go_wp2_with fail
  refine (read_any _ (small (by decide)) _).mono ?_
  rw [c1, v4.1, v4.2.1, v4.2.2, show ofB [120] = ⟨#[120]⟩ from rfl]
  rintro e w3 ⟨rfl, b⟩
  have B3 := Lib.hid (B2.out.trans (b.mono B2.out.size)); clear b B2
  go_wp2_with fail
  refine (record_any [1, 2] _ _ _ (Rd.new w3 #[.int .u64 1, .int .u64 2] 34) (by decide)).mono ?_
  rw [v5.1, v5.2]
  rintro e w4 ⟨rfl, b⟩
  have B4 := Lib.hid ((B3.out.alloc B3.out.size _).trans (b.mono (by have := B3.out.size; simp; omega))); clear b B3
  go_wp2_with fail
  refine (split_any _ 2 _ (by decide)).mono ?_
  rw [c2]
  rintro e w5 ⟨A, cap, rfl, _, b⟩
  rw [v6.1, v6.2]
  have B5 := Lib.hid (B4.out.trans (b.mono B4.out.size)); clear b B4
  go_wp2_with fail
  refine (put_any 1099511627776 _).mono ?_
  rw [v7.1, v7.2]
  rintro e w6 ⟨rfl, b⟩
  have B6 := Lib.hid (B5.out.trans (b.mono B5.out.size)); clear b B5
  go_wp2_with fail
  refine (read_any ⟨#[128, 0]⟩ (small (by decide)) _).mono ?_
  rw [show (⟨#[128, 0]⟩ : ByteArray).data.toList = [128, 0] from rfl, v8]
  rintro e w7 ⟨rfl, b⟩
  have B7 := Lib.hid (B6.out.trans (b.mono B6.out.size)); clear b B6
  go_wp2_with fail
  refine (read_any ⟨#[128]⟩ (small (by decide)) _).mono ?_
  rw [show (⟨#[128]⟩ : ByteArray).data.toList = [128] from rfl, v9]
  rintro e w8 ⟨rfl, b⟩
  have B8 := Lib.hid (B7.out.trans (b.mono B7.out.size)); clear b B7
  go_wp2_with fail
  have R1 : Rd ((w8.alloc (.cells #[.int .u64 1] 34)).alloc (.cells #[.int .u64 1, .int .u64 0] 34)) (some ⟨w8.heap.size, 0, none⟩) (nums [1]) := (Rd.new w8 #[.int .u64 1] 34).alloc _
  have R2 : Rd ((w8.alloc (.cells #[.int .u64 1] 34)).alloc (.cells #[.int .u64 1, .int .u64 0] 34)) (some ⟨w8.heap.size + 1, 0, none⟩) (nums [1, 0]) := by
    have h := Rd.new (w8.alloc (.cells #[.int .u64 1] 34)) #[.int .u64 1, .int .u64 0] 34
    rw [show (w8.alloc (.cells #[.int .u64 1] 34)).heap.size = w8.heap.size + 1 from by simp] at h
    exact h
  refine (less_any [1] [1, 0] _ _ 1 2 _ R1 R2 (by decide) (by decide)).mono ?_
  rw [show lexL [1] [1, 0] = true from rfl]
  rintro e w9 ⟨rfl, rfl⟩
  have B9 := Lib.hid ((B8.out.alloc B8.out.size (.cells #[.int .u64 1] 34)).alloc (by have := B8.out.size; simp; omega) (.cells #[.int .u64 1, .int .u64 0] 34)); clear B8
  go_wp2_with fail
  go_ret
  exact ⟨rfl, B9.out⟩
end Go.Proofs.Ytjbbkcnfilnmcaa.Nm
