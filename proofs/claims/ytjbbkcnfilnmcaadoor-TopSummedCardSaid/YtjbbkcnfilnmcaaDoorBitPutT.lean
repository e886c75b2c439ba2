/- The walks of same and Put. -/
import Derived.Test.YtjbbkcnfilnmcaaDoorBitDone
import Derived.Deep.RegionHeld3
namespace Go.Proofs.YtjbbkcnfilnmcaaDoor.Bt
open Go.RowKit

theorem packs_ex : ∀ (n : Nat) (X : List Bool), X.length = n → ∃ l, Packs l X
  | 0, X, h => by
    have : X = [] := List.length_eq_zero_iff.1 h
    subst this
    exact ⟨[], rfl, fun i => by rw [bitAt_nil]; simp⟩
  | n + 1, X, h => by
    rcases List.eq_nil_or_concat X with rfl | ⟨Y, b, rfl⟩
    · simp at h
    · rw [List.concat_eq_append] at h ⊢
      obtain ⟨l, hl⟩ := packs_ex n Y (by simp at h; omega)
      have := put_step hl b.toNat 1 (by omega) (by omega) (by cases b <;> decide) rfl
      have e : nbits b.toNat 1 = [b] := by cases b <;> decide
      rw [e] at this
      exact ⟨_, this.2⟩
/-- bits as bytes -/
noncomputable def pack (X : List Bool) : List UInt8 := Classical.choose (packs_ex X.length X rfl)
theorem pack_packs (X : List Bool) : Packs (pack X) X := Classical.choose_spec (packs_ex X.length X rfl)
theorem Packs.eq {l : List UInt8} {X : List Bool} (h : Packs l X) : l = pack X := h.inj (pack_packs X)
noncomputable def packS (X : List Bool) : ByteArray := ⟨(pack X).toArray⟩
theorem packs_of {l : List UInt8} {X : List Bool} (h1 : l.length = (X.length + 7) / 8) (h2 : ∀ i, i < 8 * l.length → bitAt l i = X.getD i false) : Packs l X := by
  refine ⟨h1, fun i => ?_⟩
  by_cases hi : i < 8 * l.length
  · exact h2 i hi
  · rw [bitAt_past l i (by omega), List.getD_eq_getElem?_getD, List.getElem?_eq_none (by omega)]; rfl

noncomputable def putE (s : ByteArray) (n : Int) (v : Nat) (r : Int) : Int := if chk s n ≠ 0 then 2 else if r < 0 ∨ 64 < r ∨ v / 2 ^ r.toNat ≠ 0 then 1 else if 1048576 < n + r then 8 else 0
noncomputable def putS (s : ByteArray) (n : Int) (v : Nat) (r : Int) : ByteArray := if putE s n v r = 0 then packS (bl (bytes s) n.toNat ++ nbits v r.toNat) else if putE s n v r = 2 then ⟨#[]⟩ else s
noncomputable def putN (s : ByteArray) (n : Int) (v : Nat) (r : Int) : Int := if putE s n v r = 0 then n + r else if putE s n v r = 2 then 0 else n
theorem ret_bit {s t : ByteArray} {a b c d : Int} (h : s = t) (k : a = c) (l : b = d) : Ending.returned (.tuple #[.agg #[.string s, .int .i64 a], .int .i64 b]) = .returned (.tuple #[.agg #[.string t, .int .i64 c], .int .i64 d]) := by rw [h, k, l]

set_option maxHeartbeats 1000000 in
theorem same_any (s : ByteArray) (n : Int) (w : World) (hs : s.size ≤ 281474976710656) :
    Calls Tryd.prog 11 #[.agg #[.string s, .int .i64 n]] w fun e w' => e = .returned (.agg #[.string s, .int .i64 n]) ∧ Below w.heap.size w w' := by
  have hbx : Below w.heap.size w (w.alloc (.cells #[.string s, .int .i64 n] 25)) := (Below.refl _ _).alloc (Nat.le_refl _) _
  go_enter Tryd.func11, Tryd.ntmps11
  go_wp2_with fail
  obtain ⟨W0, hW0⟩ : ∃ W0, W0 = (w.alloc (.cells #[.string s, .int .i64 n] 25)).alloc (.cells #[.string ⟨#[]⟩, .int .i64 0] 25) := ⟨_, rfl⟩
  rw [← hW0]
  have b0 : Below w.heap.size w W0 := by rw [hW0]; exact hbx.alloc (by simp) _
  have z0 : w.heap.size + 1 < W0.heap.size := by rw [hW0]; simp
  have g : W0.cell? ⟨w.heap.size, 0, none⟩ = some (.string s) ∧ W0.cell? ⟨w.heap.size, 1, none⟩ = some (.int .i64 n) ∧ W0.cell? ⟨w.heap.size + 1, 0, none⟩ = some (.string ⟨#[]⟩) ∧ W0.cell? ⟨w.heap.size + 1, 1, none⟩ = some (.int .i64 0) ∧ W0.frozen? ⟨w.heap.size + 1, 0, none⟩ = false ∧ W0.frozen? ⟨w.heap.size + 1, 1, none⟩ = false := by
    rw [hW0]
    refine ⟨by simp, by simp, by simp, by simp, by simp [go_sem], by simp [go_sem]⟩
  clear hW0 hbx
  have HB := Lib.hid b0; clear b0
  have ga := g.1; have gb := g.2.1
  go_region_held3 (fun W => W.cell? ⟨w.heap.size, 0, none⟩ = some (.string s) ∧ W.cell? ⟨w.heap.size, 1, none⟩ = some (.int .i64 n)) (first | exact ⟨ga, gb⟩ | exact ⟨G.1, G.2.1⟩ | (refine ⟨?_, ?_⟩ <;> simp [go_sem, G.1, G.2.1])) (first | (go_at_call 16; refine (Cln.clone_any s _ hs).mono ?_; rintro e w1 ⟨rfl, hb⟩; have G : w1.cell? ⟨w.heap.size, 0, none⟩ = some (.string s) ∧ w1.cell? ⟨w.heap.size, 1, none⟩ = some (.int .i64 n) ∧ w1.cell? ⟨w.heap.size + 1, 0, none⟩ = some (.string ⟨#[]⟩) ∧ w1.cell? ⟨w.heap.size + 1, 1, none⟩ = some (.int .i64 0) ∧ w1.frozen? ⟨w.heap.size + 1, 0, none⟩ = false ∧ w1.frozen? ⟨w.heap.size + 1, 1, none⟩ = false := ⟨by rw [hb.cell (by show w.heap.size < W0.heap.size; omega)]; exact g.1, by rw [hb.cell (by show w.heap.size < W0.heap.size; omega)]; exact g.2.1, by rw [hb.cell z0]; exact g.2.2.1, by rw [hb.cell z0]; exact g.2.2.2.1, by rw [hb.frozen z0]; exact g.2.2.2.2.1, by rw [hb.frozen z0]; exact g.2.2.2.2.2⟩))
  have hB1 : Below w.heap.size w w1 := HB.out.trans (Below.trans (⟨rfl, rfl, rfl, Nat.le_refl _, fun _ _ => rfl⟩ : Below w.heap.size W0 W0.drew) (hb.mono (by show w.heap.size ≤ W0.heap.size; omega)))
  have hB2 := (hB1.setCell (p := ⟨w.heap.size + 1, 0, none⟩) (Nat.le_succ _) (.string s)).setCell (p := ⟨w.heap.size + 1, 1, none⟩) (Nat.le_succ _) (.int .i64 n)
  have HB2 := Lib.hid hB2
  have G3 := G.2.2.1; have G4 := G.2.2.2.1
  clear hB1 hB2 hb g ga gb G
  go_wp2_with fail
  refine bodyPost_ret (v := .agg #[.string s, .int .i64 n]) (by simp [results, Tryd.results11, go_sem, G3, G4]) rfl ⟨rfl, HB2.out⟩
end Go.Proofs.YtjbbkcnfilnmcaaDoor.Bt
