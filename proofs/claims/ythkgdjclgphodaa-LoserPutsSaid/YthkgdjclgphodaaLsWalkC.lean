/- The walks of slices.Clone over numbers. -/
import Derived.Test.YthkgdjclgphodaaLsWalkB
import Derived.Test.YthkgdjclgphodaaLsRow
import Derived.Lib.LazyBuf
namespace Go.Proofs.Ythkgdjclgphodaa.Ls
open Go.RowKit Go.Lib Rw Nm

theorem info_u64 : (Try.prog.info? 52).map (fun i => (i.zero, i.size, i.bytes)) = some (some (.int .u64 0), 1, 8) := by kernel_rfl
theorem info_u64s : (Try.prog.info? 32).map (fun i => (i.zero, i.size, i.bytes)) = some (some (.slice none 0 0), 1, 24) := by kernel_rfl
theorem nums_one (L : List Nat) : ∀ u ∈ nums L, u.oneCell' = true := by
  intro u hu
  simp only [nums, List.mem_map] at hu
  obtain ⟨n, _, rfl⟩ := hu
  rfl
theorem zs_one (L : List Int) : ∀ u ∈ zs L, u.oneCell' = true := by
  intro u hu
  simp only [zs, List.mem_map] at hu
  obtain ⟨n, _, rfl⟩ := hu
  rfl
/-- what lies in a block that is new -/
def NewAt (B : Nat) (q : Option Addr) : Prop := ∀ a, q = some a → B ≤ a.block

set_option maxHeartbeats 2000000 in
set_option maxRecDepth 100000 in
theorem cloneU_any (x : List Nat) (q : Option Addr) (c : Nat) (w : World) (hq : Rd w q (nums x)) (hx : x.length ≤ 17592186044416) :
    Calls Try.prog 31 #[.slice q x.length c] w fun e w' => ∃ q' c', e = .returned (.slice q' x.length c') ∧ Rd w' q' (nums x) ∧ NewAt w.heap.size q' ∧ Below w.heap.size w w' := by
  obtain ⟨i0, hi, hz0, hz1, hz2⟩ := info_parts info_u64
  have HQ := Lib.hid hq
  have hl := nums_length x
  obtain ⟨n, hn⟩ : ∃ n, n = x.length := ⟨_, rfl⟩
  rw [← hn] at hx hl ⊢
  have HN := Lib.hid hn
  clear hn hq
  cases q with
  | none =>
    have h0 : n = 0 := by
      rcases Nat.eq_zero_or_pos n with h | h
      · exact h
      · obtain ⟨a, e, _⟩ := HQ.out.form (by rw [hl]; exact h)
        cases e
    subst h0
    have E : Hid (nums x = []) := Lib.hid (List.eq_nil_of_length_eq_zero hl)
    have hnil : ∀ W, (binOp .eql 32 (.slice none 0 c) (.slice none 0 0)).run Try.prog W = .ok (.bool true) W := fun W => run_eql_slice_nil W 32 52 none 0 c Try.underlying32
    clear HQ hl
    go_enter Try.func31, Try.ntmps31
    go_wp2_with fail
    go_ret
    exact ⟨none, _, rfl, by rw [E.out]; exact Rd.nil _ _, fun a e => by (cases e), Below.refl _ _⟩
  | some ad =>
    have hown0 := World.ownsRow_lit (e := 52) (base := w.heap.size) (size := 1) w #[] 0 (Nat.le_refl _) (by decide) rfl
    have HO := Lib.hid hown0
    have hnil : ∀ W, (binOp .eql 32 (.slice (some ad) n c) (.slice none 0 0)).run Try.prog W = .ok (.bool false) W := fun W => run_eql_slice_nil W 32 52 (some ad) n c Try.underlying32
    clear hown0
    go_enter Try.func31, Try.ntmps31
    go_wp2_with (at_builtin; refine appendRd rfl _ _ 32 rfl w.heap.size 52 i0 (.int .u64 0) 8 Try.underlying32 hi hz0 hz1 hz2 rfl w.heap.size 0 0 [] rfl HO.out (some ad) n c (nums x) rfl (HQ.out.alloc _) hl (nums_one x) (by unfold maxLen; omega) (by omega) (by simp) ?_)
    intro g cap w' h2 _ _ _ h5
    have HB : Hid (Below w.heap.size w w') := Lib.hid (((Below.refl _ w).alloc (Nat.le_refl _) _).trans h5)
    have HW := Lib.hid h2
    clear h2 h5
    go_wp2_with fail
    go_ret
    exact ⟨some ⟨g, 0, none⟩, cap, rfl, Rd.of_own HW.out, fun a e => by cases e; exact own_ge HW.out g rfl, HB.out⟩
set_option maxHeartbeats 2000000 in
set_option maxRecDepth 100000 in
theorem cloneI_any (x : List Int) (q : Option Addr) (c : Nat) (w : World) (hq : Rd w q (zs x)) (hx : x.length ≤ 17592186044416) (h0 : 0 < x.length) :
    Calls Try.prog 39 #[.slice q x.length c] w fun e w' => ∃ g c', e = .returned (.slice (some ⟨g, 0, none⟩) x.length c') ∧ w'.ownsRow w.heap.size 3 1 (.slice (some ⟨g, 0, none⟩) x.length c') x.length (zs x) ∧ Below w.heap.size w w' := by
  obtain ⟨i0, hi, hz0, hz1, hz2⟩ := info_parts info_int
  have HQ := Lib.hid hq
  have hl := zs_length x
  obtain ⟨ad, rfl, _⟩ := hq.form (by rw [hl]; exact h0)
  obtain ⟨n, hn⟩ : ∃ n, n = x.length := ⟨_, rfl⟩
  rw [← hn] at hx hl ⊢
  clear hn hq h0
  have hown0 := World.ownsRow_lit (e := 3) (base := w.heap.size) (size := 1) w #[] 0 (Nat.le_refl _) (by decide) rfl
  have HO := Lib.hid hown0
  have hnil : ∀ W, (binOp .eql 23 (.slice (some ad) n c) (.slice none 0 0)).run Try.prog W = .ok (.bool false) W := fun W => run_eql_slice_nil W 23 3 (some ad) n c Try.underlying23
  clear hown0
  go_enter Try.func39, Try.ntmps39
  go_wp2_with (at_builtin; refine appendRd rfl _ _ 23 rfl w.heap.size 3 i0 (.int .i64 0) 8 Try.underlying23 hi hz0 hz1 hz2 rfl w.heap.size 0 0 [] rfl HO.out (some ad) n c (zs x) rfl (HQ.out.alloc _) hl (zs_one x) (by unfold maxLen; omega) (by omega) (by simp) ?_)
  intro g cap w' h2 _ _ _ h5
  have HB : Hid (Below w.heap.size w w') := Lib.hid (((Below.refl _ w).alloc (Nat.le_refl _) _).trans h5)
  have HW := Lib.hid h2
  clear h2 h5
  go_wp2_with fail
  go_ret
  exact ⟨g, cap, rfl, HW.out, HB.out⟩
end Go.Proofs.Ythkgdjclgphodaa.Ls
