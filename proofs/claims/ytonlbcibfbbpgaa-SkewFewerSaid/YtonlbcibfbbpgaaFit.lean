/- Rows of rows of numbers that the call gathers itself. No function of the program in sight. -/
import Derived.Test.YtonlbcibfbbpgaaLsLess
namespace Go.Proofs.Ytonlbcibfbbpgaa.Nm
open Go.RowKit Rw Go.Op

/-- slice headers of records, as the argument has them -/
def FitA (w : World) : List Value → List (List Nat) → Prop
  | [], [] => True
  | x :: xs, L :: M => (∃ q c, x = .slice q L.length c ∧ Rd w q (nums L)) ∧ FitA w xs M
  | _, _ => False
theorem FitA.snoc {w : World} {x : Value} {L : List Nat} (hx : ∃ q c, x = .slice q L.length c ∧ Rd w q (nums L)) : ∀ {xs : List Value} {M : List (List Nat)}, FitA w xs M → FitA w (xs ++ [x]) (M ++ [L])
  | [], [], _ => ⟨hx, trivial⟩
  | _ :: _, _ :: _, ⟨h, r⟩ => ⟨h, FitA.snoc hx r⟩
  | [], _ :: _, h => h.elim
  | _ :: _, [], h => h.elim
theorem FitA.length {w : World} : ∀ {xs : List Value} {M : List (List Nat)}, FitA w xs M → xs.length = M.length
  | [], [], _ => rfl
  | _ :: _, _ :: _, ⟨_, r⟩ => by simp [FitA.length r]
  | [], _ :: _, h => h.elim
  | _ :: _, [], h => h.elim
theorem FitA.at {w : World} : ∀ {xs : List Value} {M : List (List Nat)}, FitA w xs M → ∀ i, i < M.length → ∃ q c, xs.getD i (.bool false) = .slice q (M.getD i []).length c ∧ Rd w q (nums (M.getD i []))
  | [], [], _, i, hi => absurd hi (by simp)
  | x :: xs, L :: M, ⟨h, r⟩, 0, _ => by simpa using h
  | x :: xs, L :: M, ⟨h, r⟩, i + 1, hi => by simpa using FitA.at r i (by simpa using hi)
  | [], _ :: _, h, _, _ => h.elim
  | _ :: _, [], h, _, _ => h.elim
theorem recsAt_fit {w w' : World} {B : Nat} {A : Option Addr} {n cap : Nat} {xs : List Value} {M : List (List Nat)} (hb : Below w.heap.size w w') (h : w'.ownsRow B 22 1 (.slice A n cap) n xs) (hf : FitA w xs M) (hm : ∀ L ∈ M, L.length ≤ 8) : RecsAt w' A M := by
  intro i hi
  obtain ⟨a, e, hl, hc⟩ := (Rd.of_own h) i (by rw [hf.length]; exact hi)
  obtain ⟨q, c, hv, hr⟩ := hf.at i hi
  rw [hv] at hc
  have h8 : (M.getD i []).length ≤ 8 := hm _ (by rw [List.getD_eq_getElem?_getD, List.getElem?_eq_getElem hi]; exact List.getElem_mem hi)
  exact ⟨a, q, c, e, hl, hc, hr.below hb, by omega⟩

theorem FitA.below {w w' : World} (hb : Below w.heap.size w w') : ∀ {xs : List Value} {M : List (List Nat)}, FitA w xs M → FitA w' xs M
  | [], [], _ => trivial
  | _ :: _, _ :: _, ⟨⟨q, c, e, h⟩, r⟩ => ⟨⟨q, c, e, h.below hb⟩, FitA.below hb r⟩
  | [], _ :: _, h => h.elim
  | _ :: _, [], h => h.elim
theorem RecsAt.alloc {w : World} {A : Option Addr} {M : List (List Nat)} (h : RecsAt w A M) (o : Obj) : RecsAt (w.alloc o) A M := h.below ((Below.refl _ _).alloc (Nat.le_refl _) o)
theorem rd_grownA {w w' : World} {a : Addr} {o : Option Nat} {xs : List Value} (h : Rd w (some a) xs) (hg : w.grownBy w' o) (hne : o ≠ some a.block) : Rd w' (some a) xs := fun i hi => by
  obtain ⟨a', e, hl, hc⟩ := h i hi
  cases e
  refine ⟨_, rfl, Nat.lt_of_lt_of_le hl hg.size, ?_⟩
  rw [← hc]
  exact World.cell?_of_block (hg.block _ (by rw [add_block]; exact hl) (by rw [add_block]; exact fun e => hne e.symm))
/-- a slice that lies in another block than the row that gathers it -/
def Apart (w : World) (ob : Option Nat) (x : Value) : Prop := ∀ a l c, x = .slice (some a) l c → ob ≠ some a.block ∧ a.block < w.heap.size
def FitN (w : World) (ob : Option Nat) (xs : List Value) (M : List (List Nat)) : Prop := FitA w xs M ∧ ∀ x ∈ xs, Apart w ob x
theorem FitN.nil (w : World) (ob : Option Nat) : FitN w ob [] [] := ⟨trivial, fun x hx => absurd hx (by simp)⟩
theorem FitN.below {w w' : World} {ob : Option Nat} {xs : List Value} {M : List (List Nat)} (h : FitN w ob xs M) (hb : Below w.heap.size w w') : FitN w' ob xs M :=
  ⟨h.1.below hb, fun x hx a l c e => by have := h.2 x hx a l c e; exact ⟨this.1, Nat.lt_of_lt_of_le this.2 hb.size⟩⟩
theorem FitN.snoc {w : World} {ob : Option Nat} {xs : List Value} {M : List (List Nat)} {x : Value} {L : List Nat} (h : FitN w ob xs M) (hx : ∃ q c, x = .slice q L.length c ∧ Rd w q (nums L)) (ha : Apart w ob x) : FitN w ob (xs ++ [x]) (M ++ [L]) :=
  ⟨FitA.snoc hx h.1, fun y hy => by
    rcases List.mem_append.1 hy with hy | hy
    · exact h.2 y hy
    · rw [List.mem_singleton] at hy; subst hy; exact ha⟩
theorem FitA.grown {w w' : World} {ob : Option Nat} (hg : w.grownBy w' ob) : ∀ {xs : List Value} {M : List (List Nat)}, FitA w xs M → (∀ x ∈ xs, Apart w ob x) → FitA w' xs M
  | [], [], _, _ => trivial
  | x :: xs, L :: M, ⟨⟨q, c, e, h⟩, r⟩, ha => ⟨⟨q, c, e, by
      cases q with
      | none => exact fun i hi => by obtain ⟨a, e2, _⟩ := h i hi; cases e2
      | some a => exact rd_grownA h hg (ha x (List.mem_cons_self ..) a _ _ e).1⟩, FitA.grown hg r (fun y hy => ha y (List.mem_cons_of_mem _ hy))⟩
  | [], _ :: _, h, _ => h.elim
  | _ :: _, [], h, _ => h.elim
theorem FitN.grown {w w' : World} {ob : Option Nat} {g : Nat} {xs : List Value} {M : List (List Nat)} (h : FitN w ob xs M) (hg : w.grownBy w' ob) (hn : ob = some g ∨ w.heap.size < g) : FitN w' (some g) xs M :=
  ⟨h.1.grown hg h.2, fun x hx a l c e => by
    have := h.2 x hx a l c e
    refine ⟨fun e2 => ?_, Nat.lt_of_lt_of_le this.2 hg.size⟩
    injection e2 with e2
    rcases hn with hn | hn
    · exact this.1 (by rw [hn, e2])
    · omega⟩
end Go.Proofs.Ytonlbcibfbbpgaa.Nm
