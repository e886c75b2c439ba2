/- Arguments opened: a tree, and how long its lists may be. -/
import Derived.Test.YthkgdjclgphodaaLsOpen
namespace Go.Proofs.Ythkgdjclgphodaa.Op
open Go.RowKit Go.ChangeShapes Go.WideShapes Go.Deep Go.Joins Rw Nm Ls
section
variable {H : Type} {enc : TypeId × Value → H} {P : Program} {w : World} {base : Nat} {spare : Nat → Bool} {held : Bool}
/-- what a slice weighs -/
theorem slice_len {t e : TypeId} {fuel : Nat} {A : Option Addr} {len cap : Nat} {x : DataW H × List MemPlace} (ht : P.underlying t = some (.slice e))
    (h : DataW.trod enc P w base spare held fuel t [.slice A len cap] = some x) (hq : ∀ k ∈ x.1.weights P t, k ≤ reachBytes) : len * P.bytesOf e ≤ 140737488355328 := by
  rcases open_slice ht h with ⟨hcs, _⟩ | ⟨a, l, c, m, n, D, Pl, hcs, _, hl, hm, hmm, hx0, hx⟩
  · simp at hcs
    obtain ⟨rfl, rfl, rfl⟩ := hcs
    omega
  · simp at hcs
    obtain ⟨rfl, rfl, rfl⟩ := hcs
    have h1 := hq ((((List.range len).map D).length + ((List.range (m - len)).map fun j => D (len + j)).length) * P.bytesOf e) (by rw [hx0]; simp only [DataW.weights, ht, List.mem_cons, true_or])
    simp only [List.length_map, List.length_range] at h1
    have h4 := reachBytes_lt
    have h5 : (2 : Nat) ^ 47 = 140737488355328 := by decide
    have h6 : len * P.bytesOf e ≤ (len + (m - len)) * P.bytesOf e := Nat.mul_le_mul_right _ (by omega)
    omega
set_option maxRecDepth 100000 in
theorem loser_ofB {r : Reach} {b0 : Nat} {v : Value} {d : DataW H} {p : List MemPlace} (hv : Value.okWide Try.prog w r b0 25 v) (h : DataW.Trod enc Try.prog w base spare held 25 v d p)
    (hq : ∀ k ∈ d.weights Try.prog 25, k ≤ reachBytes) : ∃ (p : Option Addr) (K : Keys) (c : Nat) (q : Option Addr) (T : List Int) (d : Nat), v = .agg #[.slice p K.length c, .slice q T.length d] ∧ LsAt w p K q T ∧ Kb K ∧ K.length ≤ 5864062014805 ∧ T.length ≤ 17592186044416 := by
  obtain ⟨p1, K, c1, q1, T, d1, rfl, hls, hkb⟩ := loser_of hv h hq
  refine ⟨p1, K, c1, q1, T, d1, rfl, hls, hkb, ?_⟩
  have hs : ∃ f0 f1 : Field, Try.prog.underlying 25 = some (.struct #[f0, f1]) ∧ f0.type = 22 ∧ f1.type = 23 ∧ f0.offset = 0 ∧ f1.offset = 1 := ⟨_, _, Try.underlying25, rfl, rfl, rfl, rfl⟩
  obtain ⟨f0, f1, hs, t0, t1, o0, o1⟩ := hs
  have c0' : Try.prog.cellsOf 22 = 1 := by kernel_rfl
  have c1' : Try.prog.cellsOf 23 = 1 := by kernel_rfl
  obtain ⟨fuel, hf⟩ := h
  have hcl : (Value.agg #[Value.slice p1 K.length c1, Value.slice q1 T.length d1]).cells.toList = [Value.slice p1 K.length c1, Value.slice q1 T.length d1] := rfl
  rw [hcl] at hf
  obtain ⟨xs, n, _, hx, _, hlen, hg⟩ := DataW.trod_struct hs hf
  match xs, hlen with
  | [y0, y1], _ =>
    have k0 := hg 0 f0 rfl
    have k1 := hg 1 f1 rfl
    simp [o0, o1, t0, t1, c0', c1'] at k0 k1
    simp only [Prod.mk.injEq] at hx
    rw [hx.1] at hq
    simp only [DataW.weights, hs, DataW.weightsEach, List.map_cons, List.map_nil, List.append_nil, List.mem_append, t0, t1] at hq
    have b0 := slice_len Try.underlying22 k0 (fun k hk => hq k (by simp [hk]))
    have b1 := slice_len Try.underlying23 k1 (fun k hk => hq k (by simp [hk]))
    have e0 : Try.prog.bytesOf 32 = 24 := by kernel_rfl
    have e1 : Try.prog.bytesOf 3 = 8 := by kernel_rfl
    rw [e0] at b0
    rw [e1] at b1
    omega
end
end Go.Proofs.Ythkgdjclgphodaa.Op
