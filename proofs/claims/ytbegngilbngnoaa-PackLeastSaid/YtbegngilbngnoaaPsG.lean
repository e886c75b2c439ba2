/- A loop over a function that tells a known list of values, one by one: a law where the body is asked of these alone. No function of the program in sight. -/
import Derived.Test.YtbegngilbngnoaaRows
import Derived.RangeFuncNested
import Derived.RangeFuncBound
import Derived.RangeFuncCalls
import Derived.RangeFuncLeaves
import Derived.RangeFuncBox
import Derived.RangeFuncWrites
import Derived.Lib.Hide
namespace Go.Proofs.Ytbegngilbngnoaa.Ps
open Go.RowKit Go

/-- the function tells xs, whatever the loop does between two of them, if it can read what it reads -/
def Tells {α : Type} (F : Fence) (m : Nat) (P : Program) (gf : Nat) (lb : Array Value) (encs : α → Array Value) (xs : List α) (Rds : World → Prop) : Prop :=
  ∀ (l : Nat) (J : List α → World → Prop) (W : World), (∀ pre W1, J pre W1 → Rds W1) →
    (∀ pre x rest W1, xs = pre ++ x :: rest → J pre W1 → YieldAt F (m - 1) P l (encs x) W1 fun e W' => e = .returned (.bool true) ∧ J (pre ++ [x]) W') →
    J [] W → CallsIn F m P gf (#[.func (.yield l) #[] #[]] ++ lb) W fun e W' => (∃ v, e = .returned v) ∧ J xs W'
/-- how a round of the body ends -/
def Ends {α : Type} (B : Nat) (I : List α → World → Prop) (xs : List α) (W : World) (e : Exit) (_ : Act) (W' : World) : Prop := e = .normal ∧ KeepsFrom B W W' ∧ I xs W'
set_option maxHeartbeats 2000000 in
theorem range_told {F : Fence} {P : Program} {n : Nat} {α : Type} {g : Operand} {ps : Array Tmp} {assign body : Code} {Q : Exit → Act → World → Prop} {a : Act} {w : World}
    (hro : F.round = none) (h1 : 1 ≤ n) {gf : Nat} {lb : Array Value} (hg : a.eval g = .func (.func gf) #[] lb) (hFg : F.fn gf) (eg : ∀ args w, (callFunc gf args).run P w = .ok (.enter gf args) w)
    {encs : α → Array Value} {xs : List α} {Rds : World → Prop} (ht : Tells F (n - 1) P gf lb encs xs Rds) (hps : ∀ x, (encs x).size = ps.size)
    (I : List α → World → Prop) (hI : OwnFrom w.heap.size I) (hR : ∀ pre W, I pre W → Rds W) (h0 : I [] w) (a₁ : α → Act)
    (hassign : ∀ (l : Nat) (x : α) (W : World) (K : Act → World → Prop), K (a₁ x) W →
      assign.wpIn (F.inRound l) (n - 1 - 1) P (Exit.then K (fun _ _ _ => False)) { tmps := (ps.zip (encs x)).foldl (fun t (p, v) => t.setIfInBounds p v) a.tmps, defers := [] } W)
    (hbody : ∀ (l : Nat) (pre : List α) (x : α) (rest : List α) (W : World), xs = pre ++ x :: rest → I pre W → body.wpIn (F.inRound l) (n - 1 - 1) P (Ends w.heap.size I (pre ++ [x]) W) (a₁ x) W)
    (hdone : ∀ (D : Nat) (W : World), w.heap.size ≤ D → I xs W → W.heap[D]? = some (.deferred (some [])) → Q .normal { a with defers := { target := .collected D, args := #[] } :: a.defers } W) :
    (Code.rangeFunc g ps assign body).wpIn F n P Q a w := by
  refine wpIn_rangeFunc fun fn hfn => ?_
  rw [hro]
  obtain ⟨D, hD⟩ : ∃ D, D = w.heap.size := ⟨_, rfl⟩
  obtain ⟨r, hr⟩ : ∃ r : LoopState → Loop, r = fun st => { state := st, pending := none, fn, tmps := a.tmps, params := ps, assign, body, defers := w.heap.size } := ⟨_, rfl⟩
  have hrun := run_enterLoop_outer (P := P) (w := w) fn a.tmps ps assign body
  rw [show ({ state := .ready, pending := none, fn, tmps := a.tmps, params := ps, assign, body, defers := w.heap.size } : Loop) = r .ready from by rw [hr]] at hrun
  obtain ⟨w2, hw2⟩ : ∃ w2, (w.alloc (.deferred (some []))).alloc (.loop (r .ready)) = w2 := ⟨_, rfl⟩
  have hLl : w2.heap[D + 1]? = some (.loop (r .ready)) := by
    rw [← hw2]
    have := World.alloc_heap_new (w.alloc (.deferred (some []))) (.loop (r .ready))
    rwa [World.size_alloc, ← hD] at this
  have hDl : w2.heap[D]? = some (.deferred (some [])) := by
    rw [← hw2, hD]
    exact (Below.heap_alloc _ _ _ (by simp)).trans (World.alloc_heap_new w _)
  have hI2 : I [] w2 := by rw [← hw2]; exact hI.alloc _ (hI.alloc _ h0)
  rw [hw2, ← hD] at hrun
  have hy : ∀ (x : α) (W : World), W.heap[D + 1]? = some (.loop (r .ready)) → (Instr.yield (D + 1) (encs x)).run P W = .ok (.round (D + 1) fn ((ps.zip (encs x)).foldl (fun t (p, v) => t.setIfInBounds p v) a.tmps) assign body) W := fun x W h => by
    have := run_yield (P := P) (args := encs x) h (by rw [hr]; exact hps x)
    rw [hr] at this
    exact this
  have hbg : ∀ W : World, W.heap[D + 1]? = some (.loop (r .ready)) → (Instr.beginRound (D + 1)).run P W = .ok () (W.putObj (D + 1) (.loop (r .busy))) := fun W h => by
    have := run_beginRound (P := P) h (by rw [hr])
    rw [hr] at this ⊢
    exact this
  have hen : ∀ W : World, W.heap[D + 1]? = some (.loop (r .busy)) → (Instr.endRound (D + 1) none).run P W = .ok (.bool true) (W.putObj (D + 1) (.loop (r .ready))) := fun W h => by
    have := run_endRound (P := P) none h
    rw [hr] at this ⊢
    exact this
  have hel : ∀ W : World, W.heap[D + 1]? = some (.loop (r .ready)) → (Instr.endLoop (D + 1)).run P W = .ok none (W.putObj (D + 1) (.loop (r .exhausted))) := fun W h => by
    have := run_endLoop (P := P) h (by rw [hr]; simp)
    rw [hr] at this ⊢
    exact this
  rw [← hD] at hI hbody hdone
  clear hr hw2 h0
  have hne : D ≠ D + 1 := Nat.ne_of_lt (Nat.lt_succ_self D)
  have hle : D ≤ D + 1 := Nat.le_succ D
  have one : ∀ pre x rest W, xs = pre ++ x :: rest → (I pre W ∧ W.heap[D + 1]? = some (.loop (r .ready)) ∧ W.heap[D]? = some (.deferred (some []))) →
      YieldAt F (n - 1 - 1) P (D + 1) (encs x) W fun e W' => e = .returned (.bool true) ∧ (I (pre ++ [x]) W' ∧ W'.heap[D + 1]? = some (.loop (r .ready)) ∧ W'.heap[D]? = some (.deferred (some []))) := by
    rintro pre x rest W hx ⟨hi, hl, hd⟩
    have hlt : D + 1 < W.heap.size := (Array.getElem?_eq_some_iff.1 hl).1
    refine ⟨fn, _, assign, body, hy x W hl, roundIn_of_wpIn hfn (hassign _ x W _ ⟨_, hbg W hl, ?_⟩)⟩
    have hl2 : (W.putObj (D + 1) (.loop (r .busy))).heap[D + 1]? = some (.loop (r .busy)) := World.putObj_heap_same hlt
    have hd2 : (W.putObj (D + 1) (.loop (r .busy))).heap[D]? = some (.deferred (some [])) := (World.putObj_heap_other hne).trans hd
    refine wpIn_mono (hbody (D + 1) pre x rest _ hx (hI.putObj _ hi hle hl rfl)) ?_
    rintro e a3 W3 ⟨rfl, hk, hi3⟩
    have hl3 := hk.same (D + 1) _ hle hl2 rfl
    have hd3 := hk.same D _ (Nat.le_refl _) hd2 rfl
    exact ⟨_, _, hen W3 hl3, rfl, hI.putObj _ hi3 hle hl3 rfl, World.putObj_heap_same (Array.getElem?_eq_some_iff.1 hl3).1, (World.putObj_heap_other hne).trans hd3⟩
  have hc := ht (D + 1) (fun pre W => I pre W ∧ W.heap[D + 1]? = some (.loop (r .ready)) ∧ W.heap[D]? = some (.deferred (some []))) w2 (fun pre W h => hR pre W h.1) one ⟨hI2, hLl, hDl⟩
  refine ⟨D + 1, [{ target := .collected D, args := #[] }], w2, { target := .fn (.func gf) lb, args := #[.func (.yield (D + 1)) #[] #[]] }, w2, gf, #[.func (.yield (D + 1)) #[] #[]] ++ lb, w2, ?_, ?_, ?_, ?_, fun _ => h1, ?_⟩
  · exact hrun
  · simp only [resolve, hg]
    simp [go_sem]
  · intro f' hf'; simp [Target.leads] at hf'; subst hf'; exact hFg
  · simp [invoke, go_sem, eg]
  · refine hc.mono ?_
    rintro e W ⟨⟨v, rfl⟩, hi, hl, hd⟩
    exact ⟨none, _, hel W hl, hdone D _ (Nat.le_refl _) (hI.putObj _ hi hle hl rfl) ((World.putObj_heap_other hne).trans hd)⟩
end Go.Proofs.Ytbegngilbngnoaa.Ps
