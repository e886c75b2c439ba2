/- An element more behind a row of the call's own; rows are kept. A slice as it is read: its cells, wherever it begins. -/
import Derived.Test.YtjnehpkkkmicfaaRows
import Derived.WalkKit
import Derived.Deep.AppendLies
import Derived.OwnWalk
import Derived.Laws.AppendOwnNone
import Derived.Lib.Strings
import Derived.Lib.Hide
import Derived.Below
import Derived.Deep.Fields
import Derived.Deep.Slices
import Derived.Deep.QuietTactic
import Derived.BigQuiet
namespace Go.Proofs.Ytjnehpkkkmicfaa.Rw
open Go.RowKit

theorem grown_of {w w' : World} (h : Below w.heap.size w w') : w.grownBy w' none := ⟨h.os, h.tape, h.output, h.size, fun k hk _ => h.block k hk⟩
theorem own_below {w w' : World} {B : Nat} {e : TypeId} {s : Nat} {v : Value} {n : Nat} {xs : List Value} (h : w.ownsRow B e s v n xs) (hb : Below w.heap.size w w') : w'.ownsRow B e s v n xs :=
  h.kept (grown_of hb) (by cases hv : v.ownBlock <;> simp)
theorem own_base {w : World} {B B' : Nat} {e : TypeId} {s : Nat} {v : Value} {n : Nat} {xs : List Value} (h : w.ownsRow B e s v n xs) (hb : B' ≤ B) : w.ownsRow B' e s v n xs := by
  refine ⟨h.1, ?_⟩
  rcases h.2 with h2 | ⟨g, cap, cur, hv, hg, r⟩
  · exact .inl h2
  · exact .inr ⟨g, cap, cur, hv, Nat.le_trans hb hg, r⟩
theorem own_ge {w : World} {B : Nat} {e : TypeId} {s : Nat} {v : Value} {n : Nat} {xs : List Value} (h : w.ownsRow B e s v n xs) : ∀ g, v.ownBlock = some g → B ≤ g := by
  intro g hg
  rcases h.2 with ⟨rfl, _⟩ | ⟨g', cap, cur, rfl, hb, _⟩
  · simp [Value.ownBlock] at hg
  · simp only [Value.ownBlock, Option.some.injEq] at hg; omega
/-- a row stays a row when a step below another base has been done -/
theorem own_belowB {w w' : World} {B C : Nat} {e : TypeId} {s : Nat} {v : Value} {n : Nat} {xs : List Value} (h : w.ownsRow B e s v n xs) (hb : Below C w w') (hc : ∀ g, v.ownBlock = some g → g < C) : w'.ownsRow B e s v n xs := by
  refine ⟨h.1, ?_⟩
  rcases h.2 with h2 | ⟨g, cap, cur, hv, hg, hh, r⟩
  · exact .inl h2
  · refine .inr ⟨g, cap, cur, hv, hg, ?_, r⟩
    rw [hb.block g (hc g (by rw [hv]; rfl))]; exact hh

theorem push {P : Program} {W : World} {ops : Array Oper} {rest : List Oper} {o : Oper} {a : Act} {Q : Exit → Act → World → Prop} (hgd : o.guard = none) (s x : Operand) (t : TypeId)
    (ho : o.op = .call { callee := .builtin .append, args := #[s, x], argTypes := #[t, t] })
    (base : Nat) (e : TypeId) (i : TypeInfo) (z : Value) (size bytes : Nat) (ht : P.underlying t = some (.slice e)) (hi : P.info? e = some i) (hz : i.zero = some z)
    (hsize : i.size = size) (hby : i.bytes = bytes) (hzs : z.cells.size = size) (hsz : 0 < size)
    (v : Value) (n : Nat) (xs : List Value) (hs : a.eval s = v) (hown : W.ownsRow base e size v n xs)
    (news : List Value) (hx : a.eval x = .slice (some ⟨W.heap.size, 0, none⟩) 1 1) (hl : news.length = size) (h1 : news.all (fun u => u.oneCell') = true)
    (hn : n ≤ 1000000000) (hb2 : bytes ≤ 1000) (hbase : base ≤ W.heap.size)
    (h : ∀ g cap w', w'.ownsRow base e size (.slice (some ⟨g, 0, none⟩) (n + 1) cap) (n + 1) (xs ++ news) → W.grownBy w' v.ownBlock → (v.ownBlock = some g ∨ W.heap.size < g) → g < w'.heap.size → Below base W w' → wpList P ops Q rest (a.put o.dst (.slice (some ⟨g, 0, none⟩) (n + 1) cap)) w') :
    wpList P ops Q (o :: rest) a (W.alloc (.cells news.toArray e)) := by
  have hg := heap_alloc_new W (.cells news.toArray e)
  have hown2 := own_below hown ((Below.refl _ W).alloc (Nat.le_refl _) (.cells news.toArray e))
  refine wpList_append_lies _ hgd s x t ho base e i z size bytes ht hi hz hsize hby hzs hsz v n xs hs hown2 ⟨W.heap.size, 0, none⟩ 1 1 news hx (by omega) ?_ ?_ (by decide) (by unfold maxLen; omega) ?_ (by simp; omega) (W.heap.size + 1) (by simp) ?_
  · intro j u hj
    have e1 : ((⟨W.heap.size, 0, none⟩ : Addr).add j) = ⟨W.heap.size, j, none⟩ := by simp [Addr.add] <;> omega
    rw [e1, cell_of_row _ _ j _ e (0, 0) hg]
    simpa using hj
  · intro u hu; exact List.all_eq_true.1 h1 u hu
  · have : (n + 1) * bytes ≤ (1000000000 + 1) * 1000 := Nat.mul_le_mul (by omega) hb2
    omega
  · intro g cap w' h2 h3 h4 h5
    have h6 : W.grownBy w' v.ownBlock := ⟨h3.os, h3.tape, h3.output, Nat.le_trans (by simp) h3.size, fun k hk hne => by rw [h3.block k (by simp; omega) hne]; exact Below.heap_alloc W _ _ hk⟩
    refine h g cap w' h2 h6 (h4.imp id (fun h => by omega)) h5 ((Below.refl _ W).grown h6 hbase (own_ge hown))

/-- a row of the call's own behind another -/
theorem pushAll {P : Program} {W : World} {ops : Array Oper} {rest : List Oper} {o : Oper} {a : Act} {Q : Exit → Act → World → Prop} (hgd : o.guard = none) (s x : Operand) (t : TypeId)
    (ho : o.op = .call { callee := .builtin .append, args := #[s, x], argTypes := #[t, t] })
    (base : Nat) (e : TypeId) (i : TypeInfo) (z : Value) (size bytes : Nat) (ht : P.underlying t = some (.slice e)) (hi : P.info? e = some i) (hz : i.zero = some z)
    (hsize : i.size = size) (hby : i.bytes = bytes) (hzs : z.cells.size = size) (hsz : 0 < size)
    (v : Value) (n : Nat) (xs : List Value) (hs : a.eval s = v) (hown : W.ownsRow base e size v n xs)
    (base2 : Nat) (v2 : Value) (m : Nat) (news : List Value) (hx : a.eval x = v2) (hown2 : W.ownsRow base2 e size v2 m news) (h1 : ∀ u ∈ news, u.oneCell' = true)
    (hn : n ≤ 1000000000) (hm : m ≤ 1000000000) (hb2 : bytes ≤ 1000) (hbase : base ≤ W.heap.size)
    (h : ∀ v' w', w'.ownsRow base e size v' (n + m) (xs ++ news) → W.grownBy w' v.ownBlock → Below base W w' → wpList P ops Q rest (a.put o.dst v') w') :
    wpList P ops Q (o :: rest) a W := by
  have hbb : (n + m) * bytes ≤ 140737488355328 := by
    have : (n + m) * bytes ≤ (1000000000 + 1000000000) * 1000 := Nat.mul_le_mul (by omega) hb2
    omega
  rcases hown2.2 with ⟨rfl, rfl⟩ | ⟨g, cap, cur, rfl, _, _, _⟩
  · have hne : news = [] := List.eq_nil_of_length_eq_zero (by simpa using hown2.1)
    subst hne
    refine wpList_append_own_none hgd s x t ho base e i size ht hi v n xs hs hown hx ?_
    exact h v W (by simpa using hown) (World.grownBy.refl W _) (Below.refl _ _)
  · refine wpList_append_own _ hgd s x t ho base e i z size bytes ht hi hz hsize hby hzs hsz v n xs hs hown ⟨g, 0, none⟩ m cap news hx hown2.1 (hown2.cells (g := g) rfl) h1 (by unfold maxLen; omega) hbb hbase ?_
    intro v' w' h2 h3 _
    exact h v' w' h2 h3 ((Below.refl _ W).grown h3 hbase (own_ge hown))
end Go.Proofs.Ytjnehpkkkmicfaa.Rw
namespace Go.Proofs.Ytjnehpkkkmicfaa.Rw
open Go.RowKit

theorem add_block (a : Addr) (n : Nat) : (a.add n).block = a.block := by unfold Addr.add; split <;> rfl
/-- from the address on there are the cells xs (of no cells nothing is said) -/
def Rd (w : World) (A : Option Addr) (xs : List Value) : Prop :=
  ∀ i, i < xs.length → ∃ a : Addr, A = some a ∧ a.block < w.heap.size ∧ w.cell? (a.add i) = some (xs.getD i (.bool false))

section
variable {w w' : World} {A : Option Addr} {xs : List Value}
theorem Rd.nil (w : World) (A : Option Addr) : Rd w A [] := fun i hi => absurd hi (by simp)
theorem Rd.form (h : Rd w A xs) (hn : 0 < xs.length) : ∃ a : Addr, A = some a ∧ a.block < w.heap.size := by
  obtain ⟨a, e, hb, _⟩ := h 0 hn
  exact ⟨a, e, hb⟩
theorem Rd.at {a : Addr} (h : Rd w (some a) xs) {i : Nat} (hi : i < xs.length) : w.cell? (a.add i) = some (xs.getD i (.bool false)) := by
  obtain ⟨a', e, _, hc⟩ := h i hi
  cases e
  exact hc
theorem Rd.below (h : Rd w A xs) (hb : Below w.heap.size w w') : Rd w' A xs := fun i hi => by
  obtain ⟨a, e, hl, hc⟩ := h i hi
  exact ⟨a, e, Nat.lt_of_lt_of_le hl hb.size, by rw [hb.cell (by rw [add_block]; exact hl)]; exact hc⟩
theorem Rd.drewN (h : Rd w A xs) (n : Nat) : Rd (w.drewN n) A xs := h.below ⟨rfl, rfl, rfl, Nat.le_refl _, fun _ _ => rfl⟩
theorem Rd.alloc (h : Rd w A xs) (o : Obj) : Rd (w.alloc o) A xs := h.below ((Below.refl _ _).alloc (Nat.le_refl _) o)
theorem Rd.pre {ys : List Value} (h : Rd w A (xs ++ ys)) : Rd w A xs := fun i hi => by
  obtain ⟨a, e, hl, hc⟩ := h i (by rw [List.length_append]; omega)
  refine ⟨a, e, hl, ?_⟩
  rw [hc]
  simp [List.getD_eq_getElem?_getD, List.getElem?_append_left hi]
theorem Rd.take (h : Rd w A xs) (k : Nat) : Rd w A (xs.take k) := by
  have e := List.take_append_drop k xs
  rw [← e] at h
  exact h.pre
theorem Rd.cut (h : Rd w A xs) (k : Nat) (hk : k < xs.length) : Rd w (A.map (·.add k)) (xs.drop k) := fun i hi => by
  rw [List.length_drop] at hi
  obtain ⟨a, rfl, hl, hc⟩ := h (k + i) (by omega)
  refine ⟨a.add k, rfl, by rw [add_block]; exact hl, ?_⟩
  rw [Go.Deep.add_add, hc]
  simp [List.getD_eq_getElem?_getD, List.getElem?_drop]
/-- the spelling of s[k:] -/
theorem Rd.cutIf (h : Rd w A xs) (k cap : Nat) (hk : k ≤ xs.length) (hc : xs.length ≤ cap) : Rd w (if cap = k then A else A.map (·.add k)) (xs.drop k) := by
  by_cases hl : k < xs.length
  · rw [if_neg (by omega)]; exact h.cut k hl
  · rw [List.drop_eq_nil_of_le (by omega)]; exact Rd.nil _ _
theorem Rd.of_own {B : Nat} {e : TypeId} {s n cap : Nat} (h : w.ownsRow B e s (.slice A n cap) n xs) : Rd w A xs := fun i hi => by
  rcases h.2 with ⟨h2, h3⟩ | ⟨g, cap', cur, hv, hg, hh, h4, h5, h6, h7⟩
  · have := h.1; subst h3; rw [Nat.zero_mul] at this; omega
  · injection hv with hA _ hc
    subst hA hc
    refine ⟨⟨g, 0, none⟩, rfl, (Array.getElem?_eq_some_iff.1 hh).1, ?_⟩
    have e1 : ((⟨g, 0, none⟩ : Addr).add i) = ⟨g, i, none⟩ := by simp [Addr.add] <;> omega
    have hl := h.1
    rw [e1, cell_of_row _ g i _ e (0, 0) hh]
    rw [← h7]
    simp only [List.getD_eq_getElem?_getD]
    rw [List.getElem?_take, if_pos (by omega)]
    have hlt : i < cur.size := by rw [h6]; exact Nat.lt_of_lt_of_le (by omega) (Nat.mul_le_mul_right s h4)
    simp [hlt]
/-- just made -/
theorem Rd.new (w : World) (cs : Array Value) (t : TypeId) : Rd (w.alloc (.cells cs t)) (some ⟨w.heap.size, 0, none⟩) cs.toList := fun i hi => by
  refine ⟨_, rfl, by simp, ?_⟩
  have e1 : ((⟨w.heap.size, 0, none⟩ : Addr).add i) = ⟨w.heap.size, i, none⟩ := by simp [Addr.add] <;> omega
  rw [e1, cell_of_row _ _ i _ t (0, 0) (heap_alloc_new w _)]
  rw [Array.length_toList] at hi
  simp [List.getD_eq_getElem?_getD, hi]
end
end Go.Proofs.Ytjnehpkkkmicfaa.Rw
