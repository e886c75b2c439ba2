/- The walks of crc.Sum and wringerref02.Sum, of texts that lie in memory one behind the other. -/
import Derived.Test.YtjbbkcnfilnmcaaDoorCrcWalkB
namespace Go.Proofs.YtjbbkcnfilnmcaaDoor.Crc
open Go.RowKit

/-- texts in memory -/
def StrsAt (w : World) (ao : Option Addr) (ss : List ByteArray) : Prop :=
  ss = [] ∨ ∃ b off, ao = some ⟨b, off, none⟩ ∧ ∀ i, i < ss.length → w.cell? ⟨b, off + i, none⟩ = some (.string (ss.getD i .empty))
def sums (ss : List ByteArray) : Nat := ss.foldl (fun n s => more n (bytes s)) 0
theorem sums_snoc (ss : List ByteArray) (k : Nat) (h : k < ss.length) : sums (ss.take (k + 1)) = more (sums (ss.take k)) (bytes (ss.getD k .empty)) := by
  have e : ss.take (k + 1) = ss.take k ++ [ss.getD k .empty] := by
    rw [List.take_succ_eq_append_getElem h, List.getD_eq_getElem?_getD, List.getElem?_eq_getElem h]; rfl
  unfold sums
  rw [e, List.foldl_append]; rfl
theorem sums_lt (ss : List ByteArray) : sums ss < 4294967296 := by
  rcases List.eq_nil_or_concat ss with rfl | ⟨l, x, rfl⟩
  · decide
  · unfold sums; rw [List.concat_eq_append, List.foldl_append]; exact more_lt _ _

set_option maxHeartbeats 400000 in
theorem sum_any (ao : Option Addr) (cap : Nat) (ss : List ByteArray) (w : World) (hl : ss.length ≤ maxLen) (hs : ∀ s ∈ ss, s.size ≤ maxLen) (hst : StrsAt w ao ss) (ht : TabOk w) :
    Calls Tryd.prog 21 #[.slice ao ss.length cap] w fun e w' => e = .returned (.int .u32 (sums ss : Nat)) ∧ w = w' := by
  unfold maxLen at hl
  rcases hst with rfl | ⟨b, off, rfl, hcell⟩
  · go_enter Tryd.func21, Tryd.ntmps21
    go_wp2_with fail
    refine wp_loop_rounds 1 ?_; rw [rounds_succ]
    go_wp2_with fail
    go_ret
    exact ⟨rfl, rfl⟩
  · have HC := Lib.hid hcell; clear hcell
    go_enter Tryd.func21, Tryd.ntmps21
    go_wp2_with fail
    go_loop [3, 8, 5] (fun r i _ => ∃ (k : Nat) (r' : Nat), k ≤ ss.length ∧ i = .int .i64 k ∧ r' = sums (ss.take k) ∧ r = .int .u32 r') (fun _ i _ => ss.length - (intOf i).toNat)
    case atStart => exact ⟨0, 0, by omega, rfl, rfl, rfl⟩
    case round =>
      obtain ⟨k, r, hk, rfl, hr, rfl⟩ := hrel
      have hr2 : r < 4294967296 := by rw [hr]; exact sums_lt _
      have HR := Lib.hid hr; clear hr
      by_cases hlt : k < ss.length
      · have hc := HC.out k hlt
        obtain ⟨x, hx⟩ : ∃ x, x = ss.getD k .empty := ⟨_, rfl⟩
        rw [← hx] at hc
        have hxm : x.size ≤ maxLen := by
          apply hs; rw [hx, List.getD_eq_getElem?_getD, List.getElem?_eq_getElem hlt]; simp
        have hfin : more r (bytes x) = sums (ss.take (k + 1)) := by rw [sums_snoc ss k hlt, ← HR.out, hx]
        have HF := Lib.hid hfin; clear hfin hx
        go_wp2_with (go_at_call 23; refine (more_any r hr2 x _ hxm ht).mono ?_; rintro e w' ⟨rfl, rfl⟩)
        go_round
        case rel => exact ⟨k + 1, _, by omega, by go_num, HF.out, rfl⟩
        case measure => simp [intOf]; omega
      · have hfin : ss.take k = ss := List.take_of_length_le (by omega)
        have HF : Hid (r = sums ss) := Lib.hid (by rw [HR.out, hfin])
        clear hfin
        go_wp2_with fail
        go_ret
        exact ⟨ret_u32 (by rw [HF.out]), rfl⟩

end Go.Proofs.YtjbbkcnfilnmcaaDoor.Crc
