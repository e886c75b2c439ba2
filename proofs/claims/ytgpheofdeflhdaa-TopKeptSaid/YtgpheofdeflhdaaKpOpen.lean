/- Arguments opened: a disk, writes, bools. -/
import Derived.Test.YtgpheofdeflhdaaDkModel
import Derived.Deep.Slices
import Derived.Deep.SlicePairs
import Derived.OpenShut
import Derived.SizedLaws
import Derived.Lib.SmallJoins
namespace Go.Proofs.Ytgpheofdeflhdaa.Dk
open Go.RowKit Go.ChangeShapes Go.WideShapes Go.Deep Go.Joins
section
variable {H : Type} {enc : TypeId × Value → H} {P : Program} {w : World} {base : Nat} {spare : Nat → Bool} {held : Bool}

theorem weightsAll_mem {e : TypeId} : ∀ {l : List (DataW H)} {d : DataW H}, d ∈ l → ∀ n ∈ d.weights P e, n ∈ DataW.weightsAll P e l
  | x :: l, d, h, n, hn => by
    simp only [DataW.weightsAll, List.mem_append]
    rcases List.mem_cons.1 h with rfl | h
    · exact .inl hn
    · exact .inr (weightsAll_mem h n hn)
theorem spot_of {a : Addr} {v : Value} (h : w.cell? (a.add 0) = some v) : a.spot = none := by
  have h9 := World.cell?_spot h
  simpa [Addr.add] using h9
theorem plain_of {a : Addr} (h : a.spot = none) : a = ⟨a.block, a.off, none⟩ := by
  obtain ⟨b, off, spot⟩ := a
  simp only at h
  rw [h]
theorem cell_lt2 {a : Addr} {v : Value} (h : w.cell? a = some v) : a.block < w.heap.size := by
  rcases Nat.lt_or_ge a.block w.heap.size with hl | hl
  · exact hl
  · unfold World.cell? at h
    rw [Array.getElem?_eq_none hl] at h
    cases h
/-- a string's weight is its size -/
theorem str_at {t : TypeId} {n : Nat} {v : Value} {y : DataW H × List MemPlace} (ht : P.underlying t = some .string) (h : DataW.trod enc P w base spare held n t [v] = some y) (hq : ∀ k ∈ y.1.weights P t, k ≤ reachBytes) : ∃ s : ByteArray, v = .string s ∧ s.size ≤ 140737488355328 := by
  obtain ⟨s, es, ey, hs⟩ := DataW.trod_string ht h
  have e1 : v = .string s := by simpa using es
  refine ⟨s, e1, ?_⟩
  have h3 := hq s.data.toList.length (by rw [ey]; simp [DataW.weights])
  have h4 := reachBytes_lt
  have h5 : (2 : Nat) ^ 47 = 140737488355328 := by decide
  rw [size_list0] at h3
  omega
where size_list0 {d : ByteArray} : d.data.toList.length = d.size := (Lib.size_eq d).symm

theorem exts_of {t e : TypeId} {f0 f1 : Field} {fuel : Nat} {A : Option Addr} {len cap : Nat} {x : DataW H × List MemPlace} (ht : P.underlying t = some (.slice e)) (he : P.underlying e = some (.struct #[f0, f1])) (hce : P.cellsOf e = 2)
    (o0 : f0.offset = 0) (o1 : f1.offset = 1) (c0 : P.cellsOf f0.type = 1) (c1 : P.cellsOf f1.type = 1) (h0 : P.underlying f0.type = some .string) (h1 : P.underlying f1.type = some .string)
    (h : DataW.trod enc P w base spare held fuel t [.slice A len cap] = some x) (hq : ∀ k ∈ x.1.weights P t, k ≤ reachBytes) : ∃ E : List Ext, E.length = len ∧ ExtAt w A E ∧ len ≤ cap ∧ cap ≤ maxLen := by
  rcases open_slice_pairs ht he hce o0 o1 c0 c1 h with ⟨hcs, _⟩ | ⟨a, l, c, m, n, V0, V1, D0, D1, P0, P1, hcs, _, hl, hm, hmm, hx0, hx⟩
  · simp at hcs
    obtain ⟨rfl, rfl, rfl⟩ := hcs
    exact ⟨[], rfl, extAt_nil _ _, by simp, by simp⟩
  · simp at hcs
    obtain ⟨rfl, rfl, rfl⟩ := hcs
    have hlm : len ≤ m := by rw [hmm]; split <;> omega
    have each : ∀ i, i < len → ∃ p : Ext, w.cell? (a.add (i * 2)) = some (.string p.1) ∧ w.cell? (a.add (i * 2 + 1)) = some (.string p.2) ∧ p.1.size ≤ 140737488355328 ∧ p.2.size ≤ 140737488355328 := by
      intro i hi
      obtain ⟨h2, h3, h4, h5⟩ := hx i (by omega)
      have hw : ∀ k ∈ (DataW.agg [D0 i, D1 i]).weights P e, k ≤ reachBytes := fun k hk => hq k (by
        rw [hx0]
        simp only [DataW.weights, ht, List.mem_cons, List.mem_append]
        exact .inr (.inl (weightsAll_mem (List.mem_map.2 ⟨i, List.mem_range.2 hi, rfl⟩) k hk)))
      simp only [DataW.weights, he, DataW.weightsEach, List.map_cons, List.map_nil, List.append_nil, List.mem_append] at hw
      obtain ⟨s, es, hs⟩ := str_at h0 h4 (fun k hk => hw k (.inl hk))
      obtain ⟨z, ez, hz⟩ := str_at h1 h5 (fun k hk => hw k (.inr hk))
      exact ⟨(s, z), by rw [h2, es], by rw [h3, ez], hs, hz⟩
    obtain ⟨F, hF⟩ := choose_lt each
    refine ⟨(List.range len).map F, by simp, ?_, hl, hm⟩
    intro i hi
    rw [List.length_map, List.length_range] at hi
    obtain ⟨q1, q2, q3, q4⟩ := hF i hi
    have e : ((List.range len).map F).getD i default = F i := by simp [List.getD_eq_getElem?_getD, hi]
    rw [e]
    have hsp := spot_of (by have := (hF 0 (by omega)).1; rw [Nat.zero_mul] at this; exact this)
    have hpl := plain_of hsp
    have hlt := cell_lt2 q1
    rw [Rw.add_block] at hlt
    rw [hpl, Addr.add_lit] at q1 q2
    exact ⟨a.block, a.off, by rw [← hpl], hlt, q1, by rw [Nat.add_assoc]; exact q2, q3, q4⟩
theorem writes_of0 {t e : TypeId} {f0 f1 f2 : Field} {fuel : Nat} {A : Option Addr} {len cap : Nat} {x : DataW H × List MemPlace} (ht : P.underlying t = some (.slice e)) (he : P.underlying e = some (.struct #[f0, f1, f2])) (hce : P.cellsOf e = 3)
    (o0 : f0.offset = 0) (o1 : f1.offset = 1) (o2 : f2.offset = 2) (c0 : P.cellsOf f0.type = 1) (c1 : P.cellsOf f1.type = 1) (c2 : P.cellsOf f2.type = 1) (h0 : P.underlying f0.type = some .string) (h1 : P.underlying f1.type = some (.int .i64)) (h2 : P.underlying f2.type = some .string)
    (h : DataW.trod enc P w base spare held fuel t [.slice A len cap] = some x) (hq : ∀ k ∈ x.1.weights P t, k ≤ reachBytes) : ∃ L : List Wr, L.length = len ∧ WrsAt w A L ∧ len ≤ cap ∧ cap ≤ maxLen := by
  rcases open_slice ht h with ⟨hcs, _⟩ | ⟨a, l, c, m, n, D, Pl, hcs, _, hl, hm, hmm, hx0, hx⟩
  · simp at hcs
    obtain ⟨rfl, rfl, rfl⟩ := hcs
    exact ⟨[], rfl, wrsAt_nil _ _, by simp, by simp⟩
  · simp at hcs
    obtain ⟨rfl, rfl, rfl⟩ := hcs
    have hlm : len ≤ m := by rw [hmm]; split <;> omega
    have each : ∀ i, i < len → ∃ p : Wr, w.cell? (a.add (i * 3)) = some (.string p.1) ∧ w.cell? (a.add (i * 3 + 1)) = some (.int .i64 p.2.1) ∧ w.cell? (a.add (i * 3 + 2)) = some (.string p.2.2) ∧ p.1.size ≤ 140737488355328 ∧ p.2.2.size ≤ 140737488355328 := by
      intro i hi
      obtain ⟨cs', g1, g2⟩ := hx i (by omega)
      rw [hce] at g1
      obtain ⟨_, hlen, hcell⟩ := World.cells?_some g1
      have hw : ∀ k ∈ (D i).weights P e, k ≤ reachBytes := fun k hk => hq k (by
        rw [hx0]
        simp only [DataW.weights, ht, List.mem_cons, List.mem_append]
        exact .inr (.inl (weightsAll_mem (List.mem_map.2 ⟨i, List.mem_range.2 hi, rfl⟩) k hk)))
      obtain ⟨xs, k, hk, hxy, _, hxl, hf⟩ := DataW.trod_struct he g2
      match xs, hxl, cs', hlen with
      | [y0, y1, y2], _, [v0, v1, v2], _ =>
        have k0 := hf 0 f0 rfl
        have k1 := hf 1 f1 rfl
        have k2 := hf 2 f2 rfl
        simp [o0, o1, o2, c0, c1, c2] at k0 k1 k2
        have e0 := hcell 0 (by omega)
        have e1 := hcell 1 (by omega)
        have e2 := hcell 2 (by omega)
        rw [add_add] at e0 e1 e2
        simp only [Prod.mk.injEq] at hxy
        rw [hxy.1] at hw
        simp only [DataW.weights, he, DataW.weightsEach, List.map_cons, List.map_nil, List.append_nil, List.mem_append] at hw
        obtain ⟨s, es, hs⟩ := str_at h0 k0 (fun k hk => hw k (.inl hk))
        obtain ⟨z, ez, _, _⟩ := DataW.trod_int h1 k1
        obtain ⟨u, eu, hu⟩ := str_at h2 k2 (fun k hk => hw k (.inr (.inr hk)))
        have ez' : v1 = .int .i64 z := by simpa using ez
        exact ⟨(s, z, u), by simpa [es] using e0, by simpa [ez'] using e1, by simpa [eu] using e2, hs, hu⟩
    obtain ⟨F, hF⟩ := choose_lt each
    refine ⟨(List.range len).map F, by simp, ?_, hl, hm⟩
    intro i hi
    rw [List.length_map, List.length_range] at hi
    obtain ⟨q1, q2, q3, q4, q5⟩ := hF i hi
    have e : ((List.range len).map F).getD i default = F i := by simp [List.getD_eq_getElem?_getD, hi]
    rw [e]
    have hsp := spot_of (by have := (hF 0 (by omega)).1; rw [Nat.zero_mul] at this; exact this)
    have hpl := plain_of hsp
    have hlt := cell_lt2 q1
    rw [Rw.add_block] at hlt
    rw [hpl, Addr.add_lit] at q1 q2 q3
    exact ⟨a.block, a.off, by rw [← hpl], hlt, q1, by rw [Nat.add_assoc]; exact q2, by rw [Nat.add_assoc]; exact q3, q4, q5⟩

/-- a disk, as an argument -/
def dval (D : Dsk) (v : DVal) : Value := .agg #[.int .i64 D.size, .slice v.pE v.nE v.cE, .slice v.pW v.nW v.cW, .int .i64 D.fuse, .bool D.down]
theorem array5 {α : Type} {cs : Array α} (h : cs.size = 5) : ∃ c0 c1 c2 c3 c4, cs = #[c0, c1, c2, c3, c4] := by
  obtain ⟨l⟩ := cs
  match l, h with
  | [c0, c1, c2, c3, c4], _ => exact ⟨c0, c1, c2, c3, c4, rfl⟩
theorem slice_shape {t e : TypeId} {fuel : Nat} {v : Value} {y : DataW H × List MemPlace} (ht : P.underlying t = some (.slice e)) (hf : DataW.trod enc P w base spare held fuel t [v] = some y) : ∃ a l c, v = .slice a l c := by
  obtain ⟨a, l, c, h⟩ := slice_form ht hf
  exact ⟨a, l, c, by simpa using h⟩
set_option maxRecDepth 100000 in
theorem disk_of {r : Reach} {b0 : Nat} {v : Value} {d : DataW H} {p : List MemPlace} (hv : Value.okWide Try.prog w r b0 31 v) (h : DataW.Trod enc Try.prog w base spare held 31 v d p)
    (hq : ∀ k ∈ d.weights Try.prog 31, k ≤ reachBytes) : ∃ D u, v = dval D u ∧ VarAt w D u := by
  have hs : ∃ f0 f1 f2 f3 f4 : Field, Try.prog.underlying 31 = some (.struct #[f0, f1, f2, f3, f4]) ∧ f0.type = 3 ∧ f1.type = 29 ∧ f2.type = 23 ∧ f3.type = 3 ∧ f4.type = 4 ∧ f0.offset = 0 ∧ f1.offset = 1 ∧ f2.offset = 2 ∧ f3.offset = 3 ∧ f4.offset = 4 := ⟨_, _, _, _, _, Try.underlying31, rfl, rfl, rfl, rfl, rfl, rfl, rfl, rfl, rfl, rfl⟩
  obtain ⟨f0, f1, f2, f3, f4, hs, t0, t1, t2, t3, t4, o0, o1, o2, o3, o4⟩ := hs
  have cE : Try.prog.cellsOf 31 = 5 := by kernel_rfl
  have ci : Try.prog.cellsOf 3 = 1 := by kernel_rfl
  have ce : Try.prog.cellsOf 29 = 1 := by kernel_rfl
  have cw : Try.prog.cellsOf 23 = 1 := by kernel_rfl
  have cb : Try.prog.cellsOf 4 = 1 := by kernel_rfl
  obtain ⟨cs, rfl, hsz⟩ := okWide_struct hs hv
  obtain ⟨c0, c1, c2, c3, c4, rfl⟩ := array5 (hsz.trans cE)
  obtain ⟨fuel, hf⟩ := h
  have hcl : (Value.agg #[c0, c1, c2, c3, c4]).cells.toList = [c0, c1, c2, c3, c4] := rfl
  rw [hcl] at hf
  obtain ⟨xs, n, _, hx, _, hlen, hg⟩ := DataW.trod_struct hs hf
  match xs, hlen with
  | [y0, y1, y2, y3, y4], _ =>
    have k0 := hg 0 f0 rfl
    have k1 := hg 1 f1 rfl
    have k2 := hg 2 f2 rfl
    have k3 := hg 3 f3 rfl
    have k4 := hg 4 f4 rfl
    simp [o0, o1, o2, o3, o4, t0, t1, t2, t3, t4, ci, ce, cw, cb] at k0 k1 k2 k3 k4
    simp only [Prod.mk.injEq] at hx
    rw [hx.1] at hq
    simp only [DataW.weights, hs, DataW.weightsEach, List.map_cons, List.map_nil, List.append_nil, List.mem_append, t0, t1, t2, t3, t4] at hq
    obtain ⟨z, ez, _, _⟩ := DataW.trod_int Try.underlying3 k0
    obtain ⟨fz, ef, _, hfw⟩ := DataW.trod_int Try.underlying3 k3
    obtain ⟨pE, nE, cE', rfl⟩ := slice_shape Try.underlying29 k1
    obtain ⟨pW, nW, cW', rfl⟩ := slice_shape Try.underlying23 k2
    obtain ⟨b, eb, _⟩ := DataW.trod_bool Try.underlying4 k4
    obtain ⟨E, hEl, hE, hE1, hE2⟩ := exts_of Try.underlying29 Try.underlying86 (by kernel_rfl) rfl rfl (by kernel_rfl) (by kernel_rfl) Try.underlying9 Try.underlying9 k1 (fun k hk => hq k (by simp [hk]))
    obtain ⟨L, hLl, hL, hL1, hL2⟩ := writes_of0 Try.underlying23 Try.underlying39 (by kernel_rfl) rfl rfl rfl (by kernel_rfl) (by kernel_rfl) (by kernel_rfl) Try.underlying9 Try.underlying3 Try.underlying9 k2 (fun k hk => hq k (by simp [hk]))
    have e0 : c0 = .int .i64 z := by simpa using ez
    have e3 : c3 = .int .i64 fz := by simpa using ef
    have e4 : c4 = .bool b := by simpa using eb
    have hb := bounds_i64 hfw
    refine ⟨⟨z, E, L, fz, b⟩, ⟨pE, nE, cE', pW, nW, cW'⟩, by rw [e0, e3, e4]; rfl, hEl.symm, hE, hLl.symm, hL, ⟨?_, ?_, hb.2⟩⟩
    · show E.length ≤ _
      unfold maxLen at hE2; omega
    · show L.length ≤ _
      unfold maxLen at hL2; omega
theorem disk_reach {ts : List TypeId} {ds : List (DataW H)} (h : (DataW.weightsEach P ts ds).all (· ≤ reachBytes) = true) {j : Nat} {t : TypeId} {d : DataW H} (ht : ts[j]? = some t) (hd : ds[j]? = some d) : ∀ k ∈ d.weights P t, k ≤ reachBytes := fun k hk =>
  of_decide_eq_true (List.all_eq_true.1 h k (DataW.weights_mem_each ht hd k hk))
end
end Go.Proofs.Ytgpheofdeflhdaa.Dk
namespace Go.Proofs.Ytgpheofdeflhdaa.Dk
open Go.RowKit Go.ChangeShapes Go.WideShapes Go.Deep Go.Joins
section
variable {H : Type} {enc : TypeId × Value → H} {P : Program} {w : World} {base : Nat} {spare : Nat → Bool} {held : Bool}
theorem bools_of {t e : TypeId} {fuel : Nat} {A : Option Addr} {len cap : Nat} {x : DataW H × List MemPlace} (ht : P.underlying t = some (.slice e)) (he : P.underlying e = some .bool) (hce : P.cellsOf e = 1)
    (h : DataW.trod enc P w base spare held fuel t [.slice A len cap] = some x) : ∃ L : List Bool, L.length = len ∧ Rw.Rd w A (bools L) ∧ len ≤ cap ∧ cap ≤ maxLen := by
  rcases open_slice ht h with ⟨hcs, _⟩ | ⟨a, l, c, m, n, D, Pl, hcs, _, hl, hm, hmm, hx0, hx⟩
  · simp at hcs
    obtain ⟨rfl, rfl, rfl⟩ := hcs
    exact ⟨[], rfl, Rw.Rd.nil _ _, by simp, by simp⟩
  · simp at hcs
    obtain ⟨rfl, rfl, rfl⟩ := hcs
    have hlm : len ≤ m := by rw [hmm]; split <;> omega
    have each : ∀ i, i < len → ∃ b : Bool, w.cell? (a.add i) = some (.bool b) := by
      intro i hi
      obtain ⟨cs', g1, g2⟩ := hx i (by omega)
      rw [hce] at g1
      obtain ⟨_, hlen, hcell⟩ := World.cells?_some g1
      match cs', hlen with
      | [v0], _ =>
        obtain ⟨b, eb, _⟩ := DataW.trod_bool he g2
        have e0 := hcell 0 (by omega)
        rw [add_add, Nat.mul_one, Nat.add_zero] at e0
        have eb' : v0 = .bool b := by simpa using eb
        exact ⟨b, by simpa [eb'] using e0⟩
    obtain ⟨F, hF⟩ := choose_lt each
    refine ⟨(List.range len).map F, by simp, ?_, hl, hm⟩
    intro i hi
    simp only [bools, List.length_map, List.length_range] at hi
    have h1 := hF i hi
    have h2 := cell_lt2 h1
    rw [Rw.add_block] at h2
    refine ⟨a, rfl, h2, ?_⟩
    rw [h1]
    simp [bools, List.getD_eq_getElem?_getD, hi]
theorem writes_of {fuel : Nat} {A : Option Addr} {len cap : Nat} {x : DataW H × List MemPlace} (h : DataW.trod enc Try.prog w base spare held fuel 23 [.slice A len cap] = some x) (hq : ∀ k ∈ x.1.weights Try.prog 23, k ≤ reachBytes) :
    ∃ L : List Wr, L.length = len ∧ WrsAt w A L ∧ len ≤ cap ∧ cap ≤ maxLen :=
  writes_of0 Try.underlying23 Try.underlying39 (by kernel_rfl) rfl rfl rfl (by kernel_rfl) (by kernel_rfl) (by kernel_rfl) Try.underlying9 Try.underlying3 Try.underlying9 h hq
end
end Go.Proofs.Ytgpheofdeflhdaa.Dk
