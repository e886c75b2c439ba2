/- Append whatever slice to a row that is new, at a step of a region that draws its order. No function of the program in sight. -/
import Derived.Test.YtjnehpkkkmicfaaLsRow
import Derived.Deep.RegionLaw
namespace Go.Proofs.Ytjnehpkkkmicfaa.Ls
open Go.RowKit Go.Op Rw
theorem rd_grown {w w' : World} {g : Nat} {o : Option Nat} {xs : List Value} (h : Rd w (some ⟨g, 0, none⟩) xs) (hg : w.grownBy w' o) (hne : ∀ k, o = some k → g ≠ k) : Rd w' (some ⟨g, 0, none⟩) xs := fun i hi => by
  obtain ⟨a, e, hl, hc⟩ := h i hi
  cases e
  refine ⟨_, rfl, Nat.lt_of_lt_of_le hl hg.size, ?_⟩
  rw [← hc]
  exact World.cell?_of_block (hg.block _ (by rw [add_block]; exact hl) (by rw [add_block]; exact fun e => hne _ e.symm rfl))
/-- append whatever slice to a row that is new, at a step of a region that draws its order -/
theorem step_appendRd {P : Program} {W : World} {ops : Array Oper} {o : Oper} {a : Act} {K : Act → World → Prop} {Q : Exit → Act → World → Prop} {E : Prop} (hgd : o.guard = none) (s x : Operand) (t : TypeId)
    (ho : o.op = .call { callee := .builtin .append, args := #[s, x], argTypes := #[t, t] })
    (base : Nat) (e : TypeId) (i : TypeInfo) (z : Value) (size bytes : Nat) (ht : P.underlying t = some (.slice e)) (hi : P.info? e = some i) (hz : i.zero = some z)
    (hsize : i.size = size) (hby : i.bytes = bytes) (hzs : z.cells.size = size) (hsz : 0 < size)
    (g0 n cap0 : Nat) (xs : List Value) (hs : a.eval s = .slice (some ⟨g0, 0, none⟩) n cap0) (A : Option Addr) (m c : Nat) (news : List Value) (hx : a.eval x = .slice A m c) (hl : news.length = m * size) (h1 : ∀ u ∈ news, u.oneCell' = true)
    (h63 : n + m ≤ maxLen) (hbytes : (n + m) * bytes ≤ 140737488355328)
    (hown : W.ownsRow base e size (.slice (some ⟨g0, 0, none⟩) n cap0) n xs) (hr : Rd W A news) (hbase : base ≤ W.heap.size)
    (h : ∀ g cap w', w'.ownsRow base e size (.slice (some ⟨g, 0, none⟩) (n + m) cap) (n + m) (xs ++ news) → W.grownBy w' (some g0) → Below base W w' → K (a.put o.dst (.slice (some ⟨g, 0, none⟩) (n + m) cap)) w') :
    if Region.wanted o (yielded ops a.tmps) = true then Oper.wp P o a W K Q else E := by
  have hg0 := hown.lt g0 rfl
  by_cases hm : m = 0
  · subst hm
    have hne : news = [] := List.eq_nil_of_length_eq_zero (by rw [hl, Nat.zero_mul])
    subst hne
    have hw : Region.wanted o (yielded ops a.tmps) = true := by simp [Region.wanted, hgd]
    rw [if_pos hw]
    have hrun := run_append_zero (P := P) (w := W) base t o.type e i size ht hi _ n xs hown A c
    unfold Oper.wp
    simp [execOp, ho, resolve, invoke, builtin, hs, hx, hrun, Result.andThen]
    have := h g0 cap0 W (by simpa using hown) (World.grownBy.refl W _) (Below.refl _ _)
    rw [Nat.add_zero] at this
    exact this
  · have hpos : 0 < news.length := by rw [hl]; exact Nat.mul_pos (by omega) hsz
    obtain ⟨ad, rfl, hlt⟩ := hr.form hpos
    refine step_append_lies _ hgd s x t ho base e i z size bytes ht hi hz hsize hby hzs hsz _ n xs hs hown ad m c news hx hl ?_ h1 (by omega) h63 hbytes hbase W.heap.size rfl ?_
    · intro j u hj
      have hj2 : j < news.length := by
        rcases Nat.lt_or_ge j news.length with h | h
        · exact h
        · rw [List.getElem?_eq_none h] at hj; cases hj
      rw [hr.at hj2, List.getD_eq_getElem?_getD, hj]; rfl
    · intro g cap w' h2 h3 h4 h5
      have hob : (Value.slice (some ⟨g0, 0, none⟩) n cap0).ownBlock = some g0 := rfl
      rw [hob] at h3
      exact h g cap w' h2 h3 ((Below.refl _ W).grown h3 hbase (fun k e => by cases e; exact hg0.1))

end Go.Proofs.Ytjnehpkkkmicfaa.Ls
