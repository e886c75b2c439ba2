/- slices.Insert of a number ahead of a full list of ints. -/
import Derived.Test.YtfmnnbeegfjnaaaGreatOrdPEnds
import Derived.Test.YtfmnnbeegfjnaaaGreatShelfB
import Derived.Shelf.Spec.SlicesInsertGrow
namespace Go.Proofs.YtfmnnbeegfjnaaaGreat.Od
open Go.RowKit Go.Lib Rw Ls _root_.Go.Proofs.YtfmnnbeegfjnaaaGreat.Nm

theorem setCells_below (b B : Nat) (hB : B ≤ b) : ∀ (vs : List Value) (o : Nat) (w0 w : World), Below B w0 w → Below B w0 (w.setCells b o vs)
  | [], _, _, _, h => h
  | v :: r, o, w0, w, h => by
    rw [World.setCells]
    exact setCells_below b B hB r (o + 1) w0 _ (below_put h (a := ⟨b, o, none⟩) hB v)
theorem setCells_size (b : Nat) : ∀ (vs : List Value) (o : Nat) (w : World), (w.setCells b o vs).heap.size = w.heap.size
  | [], _, _ => rfl
  | v :: r, o, w => by rw [World.setCells, setCells_size b r]; simp
theorem isSome_at {c : Array Value} {j : Nat} (h : j < c.size) : (c[j]?).isSome = true := by rw [Array.getElem?_eq_getElem h]; rfl
/-- a number ahead of a list that fills its row -/
theorem ins0_any (E : List Nat) (q : Option Addr) (n x vb : Nat) (w : World) (hn : n = E.length) (hl : n ≤ 1000000000) (hq : ∀ a, q = some a → ∃ g, a = ⟨g, 0, none⟩) (hr : Rd w q (zs (up E))) (hv : w.cell? ⟨vb, 0, none⟩ = some (.int .i64 (x : Nat))) :
    Calls Tryz.prog 35 #[.slice q n n, .int .i64 0, .slice (some ⟨vb, 0, none⟩) 1 1] w fun e w' => ∃ (g c : Nat), e = .returned (.slice (some ⟨g, 0, none⟩) (n + 1) c) ∧ w.heap.size ≤ g ∧ Rd w' (some ⟨g, 0, none⟩) (zs (up (x :: E))) ∧ Below w.heap.size w w' := by
  have hcl : (zs (up E)).length = n := by rw [zs_length, up_length, hn]
  have hvs : ∀ j v, [Value.int .i64 (x : Nat)][j]? = some v → w.cell? ⟨vb, 0 + j, none⟩ = some v := fun j v h => by
    cases j with
    | zero => simp at h; rw [← h]; exact hv
    | succ j => simp at h
  have h1c : ∀ v ∈ zs (up E), v.oneCell' = true := fun v hv => by simp only [zs, List.mem_map] at hv; obtain ⟨z, _, rfl⟩ := hv; rfl
  have h1v : ∀ v ∈ [Value.int .i64 (x : Nat)], v.oneCell' = true := fun v hv => by simp at hv; rw [hv]; rfl
  by_cases h0 : n = 0
  · have hE : E = [] := List.eq_nil_of_length_eq_zero (by omega)
    subst h0
    subst hE
    refine (Tryz.slices_Insert_I_end q 0 0 vb 0 1 1 [] [.int .i64 (x : Nat)] w (by omega) (by omega) (by omega) (by omega) rfl rfl (fun _ => rfl) (fun a _ j v h => by simp at h) hvs h1v).mono ?_
    rintro e w' ⟨rfl, rfl⟩
    refine ⟨w.heap.size, _, rfl, Nat.le_refl _, fun i hi => ?_, ((Below.refl _ w).drew).alloc (Nat.le_refl _) _⟩
    have hi0 : i = 0 := by rw [zs_length, up_length] at hi; simpa using hi
    subst hi0
    refine ⟨_, rfl, by simp, ?_⟩
    rw [Addr.add_lit, World.cell?_alloc_at (w := w.drew) _ _ w.heap.size 0 rfl, Array.getElem?_append_left (by simp)]
    rfl
  · obtain ⟨a, rfl, hc⟩ := rd_z hr 0 (by rw [up_length, ← hn]; omega)
    obtain ⟨g, rfl⟩ := hq a rfl
    have hcs : ∀ j v, (zs (up E))[j]? = some v → w.cell? ⟨g, 0 + j, none⟩ = some v := fun j v h => by
      have hj : j < (zs (up E)).length := (List.getElem?_eq_some_iff.1 h).1
      have := hr.at hj
      rw [Addr.add_lit] at this
      rw [this, List.getD_eq_getElem?_getD, h]; rfl
    refine (Tryz.slices_Insert_I_grow g 0 n n 0 vb 0 1 1 (zs (up E)) [.int .i64 (x : Nat)] w (by omega) (by omega) (by omega) (by omega) (by omega) hcl rfl hcs hvs h1c h1v).mono ?_
    rintro e w' ⟨rfl, rfl⟩
    have hG := grownCap_ge w (n + 1) n 3
    generalize grownCap w (n + 1) n 3 = G at hG ⊢
    obtain ⟨ROW, hROW⟩ : ∃ ROW : Array Value, ROW = ((zs (up E)).take 0).toArray ++ Builtin.zeroCells (Value.int .i64 0).cells (n + 1 - 0) ++ Builtin.zeroCells (Value.int .i64 0).cells (G - (n + 1)) := ⟨_, rfl⟩
    rw [← hROW]
    have hRl : n + 1 ≤ ROW.size := by
      rw [hROW]
      first | (simp [Builtin.zeroCells, Value.cells]; done) | (simp [Builtin.zeroCells, Value.cells]; omega)
    clear hROW
    have c0 : ∀ j, j < n + 1 → (((w.alloc (.cells ROW 3)).drew).cell? ⟨w.heap.size, j, none⟩).isSome = true := fun j hj => by
      show ((w.alloc (.cells ROW 3)).cell? ⟨w.heap.size, j, none⟩).isSome = true
      rw [World.cell?_alloc_at (w := w) _ _ w.heap.size j rfl]
      exact isSome_at (by omega)
    have c1 : ∀ j, j < n + 1 → ((((w.alloc (.cells ROW 3)).drew.setCells w.heap.size 0 [.int .i64 (x : Nat)]).drew).cell? ⟨w.heap.size, j, none⟩).isSome = true := fun j hj => by
      exact isSome_setCells w.heap.size _ 0 ((w.alloc (.cells ROW 3)).drew) (fun j hj => c0 _ (by simp at hj; omega)) j (c0 j hj)
    refine ⟨w.heap.size, _, rfl, Nat.le_refl _, fun i hi => ?_, ?_⟩
    · refine ⟨_, rfl, by rw [setCells_size]; show w.heap.size < ((w.alloc (.cells ROW 3)).drew.setCells w.heap.size 0 [.int .i64 (x : Nat)]).heap.size; rw [setCells_size]; show w.heap.size < (w.alloc (.cells ROW 3)).heap.size; simp, ?_⟩
      rw [Addr.add_lit]
      cases i with
      | zero =>
        rw [World.cell?_setCells_out _ _ _ _ _ (fun _ _ => .inl (by simp))]
        have := World.cell?_setCells_in w.heap.size [Value.int .i64 (x : Nat)] 0 ((w.alloc (.cells ROW 3)).drew) (fun j hj => c0 _ (by simp at hj; omega)) 0 (by simp)
        exact this
      | succ i =>
        have hi2 : i < (zs (up E)).length := by rw [hcl]; rw [zs_length, up_length] at hi; simp at hi; omega
        have := World.cell?_setCells_in w.heap.size ((zs (up E)).drop 0) (0 + 1) ((((w.alloc (.cells ROW 3)).drew.setCells w.heap.size 0 [.int .i64 (x : Nat)]).drew)) (fun j hj => c1 _ (by rw [List.drop_zero, hcl] at hj; omega)) i (by rw [List.drop_zero]; exact hi2)
        rw [show 0 + (i + 1) = 0 + 1 + i by omega, this]
        have hi3 : i < E.length := by rw [← hn]; rw [hcl] at hi2; exact hi2
        simp [zs, up, List.getElem?_eq_getElem hi3]
    · exact setCells_below _ _ (Nat.le_refl _) _ _ _ _ (setCells_below _ _ (Nat.le_refl _) _ _ _ _ (((Below.refl _ w).alloc (Nat.le_refl _) _).drew)).drew
end Go.Proofs.YtfmnnbeegfjnaaaGreat.Od
