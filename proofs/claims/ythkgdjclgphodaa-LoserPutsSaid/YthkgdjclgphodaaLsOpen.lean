/- Arguments opened: slices of numbers, of slices of numbers, of whole numbers; a tree. -/
import Derived.Test.YthkgdjclgphodaaLsLives
import Derived.OpenShut
import Derived.ChangeSlices
import Derived.Deep.Slices
import Derived.Deep.Grids
import Derived.SizedLaws
import Derived.Lib.SmallJoins
namespace Go.Proofs.Ythkgdjclgphodaa.Op
open Go.RowKit Go.ChangeShapes Go.WideShapes Go.Deep Go.Joins Rw Nm Ls

theorem cell_lt {w : World} {a : Addr} {v : Value} (h : w.cell? a = some v) : a.block < w.heap.size := by
  rcases Nat.lt_or_ge a.block w.heap.size with hl | hl
  · exact hl
  · unfold World.cell? at h
    rw [Array.getElem?_eq_none hl] at h
    cases h
section
variable {H : Type} {enc : TypeId × Value → H} {P : Program} {w : World} {base : Nat} {spare : Nat → Bool} {held : Bool}

theorem weightsAll_mem {e : TypeId} : ∀ {l : List (DataW H)} {d : DataW H}, d ∈ l → ∀ n ∈ d.weights P e, n ∈ DataW.weightsAll P e l
  | x :: l, d, h, n, hn => by
    simp only [DataW.weightsAll, List.mem_append]
    rcases List.mem_cons.1 h with rfl | h
    · exact .inl hn
    · exact .inr (weightsAll_mem h n hn)
theorem reach_of {ts : List TypeId} {ds : List (DataW H)} (h : (DataW.weightsEach P ts ds).all (· ≤ reachBytes) = true) {j : Nat} {t : TypeId} {d : DataW H} (ht : ts[j]? = some t) (hd : ds[j]? = some d) : ∀ k ∈ d.weights P t, k ≤ reachBytes := fun k hk =>
  of_decide_eq_true (List.all_eq_true.1 h k (DataW.weights_mem_each ht hd k hk))

theorem nums_of {t e : TypeId} {fuel : Nat} {A : Option Addr} {len cap : Nat} {x : DataW H × List MemPlace} (ht : P.underlying t = some (.slice e)) (he : P.underlying e = some (.int .u64)) (hc : P.cellsOf e = 1) (hb8 : P.bytesOf e = 8)
    (h : DataW.trod enc P w base spare held fuel t [.slice A len cap] = some x) (hq : ∀ k ∈ x.1.weights P t, k ≤ reachBytes) : ∃ L : List Nat, L.length = len ∧ Rd w A (nums L) ∧ len ≤ 17592186044416 ∧ (∀ n ∈ L, n < 18446744073709551616) := by
  rcases open_ints ht he hc h with ⟨hcs, _⟩ | ⟨a, l, c, zs, hcs, _, hl, hm, hz, hx0, hcell, hwf⟩
  · simp at hcs
    obtain ⟨rfl, rfl, rfl⟩ := hcs
    exact ⟨[], rfl, Rd.nil _ _, by simp, by simp⟩
  · simp at hcs
    obtain ⟨rfl, rfl, rfl⟩ := hcs
    have hlz : len ≤ zs.length := by rw [hz]; split <;> omega
    have hsz : len ≤ 17592186044416 := by
      have h1 := hq (((lits IntKind.u64 (zs.take len) : List (DataW H)).length + (lits IntKind.u64 (zs.drop len) : List (DataW H)).length) * P.bytesOf e) (by rw [hx0]; simp only [DataW.weights, ht, List.mem_cons, true_or])
      rw [hb8] at h1
      have h4 := reachBytes_lt
      have h5 : (2 : Nat) ^ 47 = 140737488355328 := by decide
      simp only [lits, List.length_map, List.length_take, List.length_drop] at h1
      omega
    have hb : ∀ i, i < zs.length → 0 ≤ zs.getD i 0 ∧ zs.getD i 0 < 18446744073709551616 := by
      intro i hi
      have := hwf (zs.getD i 0) (by rw [List.getD_eq_getElem?_getD, List.getElem?_eq_getElem hi]; exact List.getElem_mem hi)
      have h2 := bounds_u64 this
      omega
    refine ⟨(zs.take len).map Int.toNat, by rw [List.length_map, List.length_take]; omega, ?_, hsz, ?_⟩
    · intro i hi
      rw [nums_length, List.length_map, List.length_take] at hi
      have hci := hcell i (by omega)
      have h2 := cell_lt hci
      rw [add_block] at h2
      refine ⟨a, rfl, h2, ?_⟩
      rw [hci, nums_getD _ _ (by rw [List.length_map, List.length_take]; omega)]
      have h3 := hb i (by omega)
      have e : ((zs.take len).map Int.toNat).getD i 0 = (zs.getD i 0).toNat := by
        simp [List.getD_eq_getElem?_getD, show i < len by omega, List.getElem?_eq_getElem (show i < zs.length by omega)]
      rw [e, Int.toNat_of_nonneg h3.1]
    · intro n hn
      rw [List.mem_map] at hn
      obtain ⟨z, hz2, rfl⟩ := hn
      have := bounds_u64 (hwf z (List.mem_of_mem_take hz2))
      omega
theorem ints_of {t e : TypeId} {fuel : Nat} {A : Option Addr} {len cap : Nat} {x : DataW H × List MemPlace} (ht : P.underlying t = some (.slice e)) (he : P.underlying e = some (.int .i64)) (hc : P.cellsOf e = 1)
    (h : DataW.trod enc P w base spare held fuel t [.slice A len cap] = some x) : ∃ L : List Int, L.length = len ∧ Rd w A (zs L) ∧ len ≤ maxLen := by
  rcases open_ints ht he hc h with ⟨hcs, _⟩ | ⟨a, l, c, z, hcs, _, hl, hm, hz, hx0, hcell, hwf⟩
  · simp at hcs
    obtain ⟨rfl, rfl, rfl⟩ := hcs
    exact ⟨[], rfl, Rd.nil _ _, by simp⟩
  · simp at hcs
    obtain ⟨rfl, rfl, rfl⟩ := hcs
    have hlz : len ≤ z.length := by rw [hz]; split <;> omega
    refine ⟨z.take len, by rw [List.length_take]; omega, ?_, by omega⟩
    intro i hi
    rw [zs_length, List.length_take] at hi
    have hci := hcell i (by omega)
    have h2 := cell_lt hci
    rw [add_block] at h2
    refine ⟨a, rfl, h2, ?_⟩
    rw [hci, zs_getD _ _ (by rw [List.length_take]; omega)]
    have e : (z.take len).getD i 0 = z.getD i 0 := by
      simp [List.getD_eq_getElem?_getD, show i < len by omega]
    rw [e]
theorem recs_of {t e q : TypeId} {fuel : Nat} {A : Option Addr} {len cap : Nat} {x : DataW H × List MemPlace} (ht : P.underlying t = some (.slice e)) (he : P.underlying e = some (.slice q)) (hqq : P.underlying q = some (.int .u64)) (ce : P.cellsOf e = 1) (cq : P.cellsOf q = 1) (hb8 : P.bytesOf q = 8)
    (h : DataW.trod enc P w base spare held fuel t [.slice A len cap] = some x) (hq : ∀ k ∈ x.1.weights P t, k ≤ reachBytes) : ∃ M : List (List Nat), M.length = len ∧ RecsAt w A M ∧ Kb M ∧ len ≤ maxLen := by
  rcases open_slice1 ht ce h with ⟨hcs, _⟩ | ⟨a, l, c, m, n, V, D, Pl, hcs, _, hl, hm, hmm, hx0, hx⟩
  · simp at hcs
    obtain ⟨rfl, rfl, rfl⟩ := hcs
    exact ⟨[], rfl, fun i hi => absurd hi (by simp), fun i hi => absurd hi (by simp), by simp⟩
  · simp at hcs
    obtain ⟨rfl, rfl, rfl⟩ := hcs
    have hlm : len ≤ m := by rw [hmm]; split <;> omega
    have each : ∀ i, i < len → ∃ L : List Nat, ∃ (q : Option Addr) (c : Nat), w.cell? (a.add i) = some (.slice q L.length c) ∧ Rd w q (nums L) ∧ L.length ≤ 17592186044416 := by
      intro i hi
      obtain ⟨hc, htr⟩ := hx i (by omega)
      have hw : ∀ k ∈ (D i).weights P e, k ≤ reachBytes := fun k hk => hq k (by
        rw [hx0]
        simp only [DataW.weights, ht, List.mem_cons, List.mem_append]
        exact .inr (.inl (weightsAll_mem (List.mem_map.2 ⟨i, List.mem_range.2 hi, rfl⟩) k hk)))
      rcases open_ints he hqq cq htr with ⟨hcs, _⟩ | ⟨b, l2, c2, zs, hcs, _⟩
      · simp at hcs
        exact ⟨[], none, 0, by rw [hc, hcs]; rfl, Rd.nil _ _, by simp⟩
      · simp at hcs
        rw [hcs] at htr hc
        obtain ⟨L, hL, hr, h1, _⟩ := nums_of he hqq cq hb8 htr hw
        exact ⟨L, _, _, by rw [hc, hL], hr, by omega⟩
    have ch : ∃ F : Nat → List Nat, ∀ i, i < len → ∃ (q : Option Addr) (c : Nat), w.cell? (a.add i) = some (.slice q (F i).length c) ∧ Rd w q (nums (F i)) ∧ (F i).length ≤ 17592186044416 :=
      ⟨fun i => if h : i < len then Classical.choose (each i h) else [], fun i hi => by dsimp only; rw [dif_pos hi]; exact Classical.choose_spec (each i hi)⟩
    obtain ⟨F, hF⟩ := ch
    have eF : ∀ i, i < len → ((List.range len).map F).getD i [] = F i := fun i hi => by simp [List.getD_eq_getElem?_getD, hi]
    refine ⟨(List.range len).map F, by simp, ?_, ?_, by omega⟩
    · intro i hi
      rw [List.length_map, List.length_range] at hi
      obtain ⟨q, c, h1, h2, h3⟩ := hF i hi
      rw [eF i hi]
      have h4 := cell_lt h1
      rw [add_block] at h4
      exact ⟨a, q, c, rfl, h4, h1, h2, by omega⟩
    · intro i hi
      rw [List.length_map, List.length_range] at hi
      rw [eF i hi]
      obtain ⟨_, _, _, _, h3⟩ := hF i hi
      exact h3
theorem slice_shape {t e : TypeId} {fuel : Nat} {v : Value} {y : DataW H × List MemPlace} (ht : P.underlying t = some (.slice e)) (hf : DataW.trod enc P w base spare held fuel t [v] = some y) : ∃ a l c, v = .slice a l c := by
  obtain ⟨a, l, c, h⟩ := slice_form ht hf
  exact ⟨a, l, c, by simpa using h⟩
theorem array2 {α : Type} {cs : Array α} (h : cs.size = 2) : ∃ c0 c1, cs = #[c0, c1] := by
  obtain ⟨l⟩ := cs
  match l, h with
  | [c0, c1], _ => exact ⟨c0, c1, rfl⟩
set_option maxRecDepth 100000 in
theorem loser_of {r : Reach} {b0 : Nat} {v : Value} {d : DataW H} {p : List MemPlace} (hv : Value.okWide Try.prog w r b0 25 v) (h : DataW.Trod enc Try.prog w base spare held 25 v d p)
    (hq : ∀ k ∈ d.weights Try.prog 25, k ≤ reachBytes) : ∃ (p : Option Addr) (K : Keys) (c : Nat) (q : Option Addr) (T : List Int) (d : Nat), v = .agg #[.slice p K.length c, .slice q T.length d] ∧ LsAt w p K q T ∧ Kb K := by
  have hs : ∃ f0 f1 : Field, Try.prog.underlying 25 = some (.struct #[f0, f1]) ∧ f0.type = 22 ∧ f1.type = 23 ∧ f0.offset = 0 ∧ f1.offset = 1 := ⟨_, _, Try.underlying25, rfl, rfl, rfl, rfl⟩
  obtain ⟨f0, f1, hs, t0, t1, o0, o1⟩ := hs
  have cE : Try.prog.cellsOf 25 = 2 := by kernel_rfl
  have c0' : Try.prog.cellsOf 22 = 1 := by kernel_rfl
  have c1' : Try.prog.cellsOf 23 = 1 := by kernel_rfl
  obtain ⟨cs, rfl, hsz⟩ := okWide_struct hs hv
  obtain ⟨c0, c1, rfl⟩ := array2 (hsz.trans cE)
  obtain ⟨fuel, hf⟩ := h
  have hcl : (Value.agg #[c0, c1]).cells.toList = [c0, c1] := rfl
  rw [hcl] at hf
  obtain ⟨xs, n, _, hx, _, hlen, hg⟩ := DataW.trod_struct hs hf
  match xs, hlen with
  | [y0, y1], _ =>
    have k0 := hg 0 f0 rfl
    have k1 := hg 1 f1 rfl
    simp [o0, o1, t0, t1, c0', c1'] at k0 k1
    simp only [Prod.mk.injEq] at hx
    rw [hx.1] at hq
    simp only [DataW.weights, hs, DataW.weightsEach, List.map_cons, List.map_nil, List.append_nil, List.mem_append, t0, t1] at hq
    obtain ⟨pK, nK, cK, rfl⟩ := slice_shape Try.underlying22 k0
    obtain ⟨pT, nT, cT, rfl⟩ := slice_shape Try.underlying23 k1
    obtain ⟨K, hKl, hK, hkb, hK2⟩ := recs_of Try.underlying22 Try.underlying32 Try.underlying52 (by kernel_rfl) (by kernel_rfl) (by kernel_rfl) k0 (fun k hk => hq k (by simp [hk]))
    obtain ⟨T, hTl, hT, hT2⟩ := ints_of Try.underlying23 Try.underlying3 (by kernel_rfl) k1
    refine ⟨pK, K, cK, pT, T, cT, by rw [hKl, hTl], ⟨hK, hT, ?_, ?_⟩, hkb⟩
    · unfold maxLen at hK2; omega
    · unfold maxLen at hT2; omega
end
end Go.Proofs.Ythkgdjclgphodaa.Op
