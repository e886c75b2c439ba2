/- The walk of slices.IndexFunc over writes. -/
import Derived.Test.YtejmbbhbimgheaaDkWalkP
namespace Go.Proofs.Ytejmbbhbimgheaa.Dk
open Go.RowKit Go.Op

/-- the first of which it holds -/
def ixW (P : Wr → Bool) (E : List Wr) : Int := if E.findIdx P < E.length then (E.findIdx P : Nat) else -1
theorem findIdxW_at {P : Wr → Bool} {E : List Wr} {k : Nat} (hk : k < E.length) (h : ∀ j, j < k → P (E.getD j default) = false) (hp : P (E.getD k default) = true) : E.findIdx P = k := by
  have hg : ∀ j, (hj : j < E.length) → E.getD j default = E[j] := fun j hj => by simp [List.getD_eq_getElem?_getD, List.getElem?_eq_getElem hj]
  rw [List.findIdx_eq hk]
  exact ⟨by rw [← hg k hk]; exact hp, fun j hj => by have := h j hj; rw [hg j (by omega)] at this; exact this⟩
theorem findIdxW_none {P : Wr → Bool} {E : List Wr} (h : ∀ j, j < E.length → P (E.getD j default) = false) : E.findIdx P = E.length := by
  rw [List.findIdx_eq_length]
  intro x hx
  obtain ⟨i, hi, rfl⟩ := List.mem_iff_getElem.1 hx
  have := h i hi
  simpa [List.getD_eq_getElem?_getD, List.getElem?_eq_getElem hi] using this

set_option maxHeartbeats 4000000 in
set_option maxRecDepth 100000 in
theorem indexW_any (E : List Wr) (P : Wr → Bool) (p : Option Addr) (n c f : Nat) (caps : Array Value) (w : World) (hn : n = E.length) (h : WrsAt w p E) (hE : n ≤ 1000000000)
    (hcf : ∀ args W, (callFunc f args).run Try.prog W = .ok (.enter f args) W)
    (hst : ∀ W, Below w.heap.size w W → ∀ i, i < E.length → Calls Try.prog f (#[.agg #[.string (E.getD i default).1, .int .i64 (E.getD i default).2.1, .string (E.getD i default).2.2]] ++ caps) W fun e W' => e = .returned (.bool (P (E.getD i default))) ∧ Below W.heap.size W W') :
    Calls Try.prog 84 #[.slice p n c, .func (.func f) #[] caps] w fun e w' => e = .returned (.int .i64 (ixW P E)) ∧ Below w.heap.size w w' := by
  have HE := Lib.hid h; have HN := Lib.hid hn; have HST := Lib.hid hst
  clear h hn hst
  go_enter Try.func84, Try.ntmps84
  go_wp2_with fail
  go_loopw [5, 8] (fun _ i wr => ∃ (k : Nat), k ≤ n ∧ i = .int .i64 k ∧ (∀ j, j < k → P (E.getD j default) = false) ∧ Below w.heap.size w wr) (fun _ i _ => n - (intOf i).toNat)
  case atStart => exact ⟨0, by omega, rfl, fun j hj => absurd hj (by omega), Below.refl _ _⟩
  case round =>
    obtain ⟨k, hk, rfl, hx, hbl⟩ := hrel
    by_cases hlt : k < n
    · obtain ⟨g, o, rfl, hg, d0, d1, d2, hz1, hz2⟩ := (HE.out.below hbl) k (by rw [← HN.out]; exact hlt)
      have hcall := HST.out wr hbl k (by rw [← HN.out]; exact hlt)
      obtain ⟨x, hxx⟩ : ∃ x, x = (E.getD k default).1 := ⟨_, rfl⟩
      obtain ⟨s, hs⟩ : ∃ s, s = (E.getD k default).2.1 := ⟨_, rfl⟩
      obtain ⟨y, hy⟩ : ∃ y, y = (E.getD k default).2.2 := ⟨_, rfl⟩
      obtain ⟨b, hb⟩ : ∃ b, b = P (E.getD k default) := ⟨_, rfl⟩
      rw [← hb, ← hxx, ← hs, ← hy] at hcall
      rw [← hxx] at d0 hz1; rw [← hs] at d1; rw [← hy] at d2 hz2
      have HC := Lib.hid hcall; have HB := Lib.hid hb; have HX := Lib.hid hx; have HBL := Lib.hid hbl
      clear hcall hxx hs hy hb hx hbl
      cases b with
      | true =>
        have F : Hid ((k : Int) = ixW P E) := Lib.hid (by
          unfold ixW
          rw [findIdxW_at (by rw [← HN.out]; exact hlt) HX.out HB.out.symm, if_pos (by rw [← HN.out]; exact hlt)])
        go_wp2_with fail
        refine HC.out.mono ?_
        rintro e w1 ⟨rfl, b1⟩
        have B1 := Lib.hid (HBL.out.trans (b1.mono HBL.out.size))
        clear b1 d0 d1 d2
        go_wp2_with fail
        go_ret
        exact ⟨ret_int F.out, B1.out⟩
      | false =>
        have F : Hid (∀ j, j < k + 1 → P (E.getD j default) = false) := Lib.hid (fun j hj => by
          by_cases e : j = k
          · rw [e]; exact HB.out.symm
          · exact HX.out j (by omega))
        go_wp2_with fail
        refine HC.out.mono ?_
        rintro e w1 ⟨rfl, b1⟩
        have B1 := Lib.hid (HBL.out.trans (b1.mono HBL.out.size))
        clear b1 d0 d1 d2
        go_wp2_with fail
        go_roundw
        case rel => exact ⟨k + 1, by omega, by go_num, F.out, B1.out⟩
        case measure => simp [intOf]; omega
    · obtain rfl : n = k := by omega
      have F : Hid (-1 = ixW P E) := Lib.hid (by
        unfold ixW
        rw [findIdxW_none (by rw [← HN.out]; exact hx), if_neg (by omega)])
      have HBL := Lib.hid hbl
      clear hx hbl
      go_wp2_with fail
      go_ret
      exact ⟨ret_int F.out, HBL.out⟩
end Go.Proofs.Ytejmbbhbimgheaa.Dk
