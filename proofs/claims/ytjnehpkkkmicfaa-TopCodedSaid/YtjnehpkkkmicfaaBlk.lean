/- Blocks of cells whole: what lies in one, stores into it, loads of all of it. -/
import Derived.Test.YtjnehpkkkmicfaaApp
import Derived.Test.YtjnehpkkkmicfaaOrdNum
import Derived.Lib.Walk
import Derived.Deep.MidRow
import Derived.Deep.WholeRow
namespace Go.Proofs.Ytjnehpkkkmicfaa.Bk
open Go.RowKit Go.Lib Rw Ls Od _root_.Go.Proofs.Ytjnehpkkkmicfaa.Nm

/-- nothing but block g is another -/
structure Only (g : Nat) (w w' : World) : Prop where
  os : w'.os = w.os
  tape : w'.tape = w.tape
  output : w'.output = w.output
  size : w'.heap.size = w.heap.size
  block : ∀ k, k ≠ g → w'.heap[k]? = w.heap[k]?
section
variable {g B : Nat} {w w' w2 : World}
theorem Only.refl (g : Nat) (w : World) : Only g w w := ⟨rfl, rfl, rfl, rfl, fun _ _ => rfl⟩
theorem Only.trans (h : Only g w w') (k : Only g w' w2) : Only g w w2 := ⟨k.os.trans h.os, k.tape.trans h.tape, k.output.trans h.output, k.size.trans h.size, fun i hi => (k.block i hi).trans (h.block i hi)⟩
theorem Only.drew (h : Only g w w') : Only g w w'.drew := ⟨h.os, h.tape, h.output, h.size, h.block⟩
theorem Only.below (h : Only g w w') (hB : B ≤ g) : Below B w w' := ⟨h.os, h.tape, h.output, Nat.le_of_eq h.size.symm, fun k hk => h.block k (by omega)⟩
theorem Only.setCell (h : Only g w w') (k : Nat) (v : Value) : Only g w (w'.setCell ⟨g, k, none⟩ v) :=
  ⟨h.os, h.tape, h.output, by simpa using h.size, fun i hi => by rw [Below.heap_setCell _ _ _ _ hi]; exact h.block i hi⟩
theorem Only.setRow (h : Only g w w') (cs : Array Value) : Only g w (w'.setRow g cs) :=
  ⟨h.os, h.tape, h.output, by simpa [World.setRow] using h.size, fun i hi => by rw [setRow_other _ _ _ _ hi]; exact h.block i hi⟩
end
theorem zv_of {t : TypeId} {z : Value} (h : (Try.prog.info? t).map (·.zero) = some (some z)) (w : World) : (zeroValue t).run Try.prog w = .ok z w := by
  cases hq : Try.prog.info? t with
  | none => simp [hq] at h
  | some i =>
    have hz : i.zero = some z := by simpa [hq] using h
    simp [zeroValue, typeInfo, hq, hz]
/-- block g is these cells -/
def Blk (w : World) (g : Nat) (t : TypeId) (xs : List Value) : Prop := w.heap[g]? = some (.cells xs.toArray t (0, 0))
section
variable {w w' : World} {g B : Nat} {t : TypeId} {xs : List Value}
theorem Blk.new (w : World) (t : TypeId) (xs : List Value) : Blk (w.alloc (.cells xs.toArray t)) w.heap.size t xs := heap_alloc_new w _
theorem Blk.lt (h : Blk w g t xs) : g < w.heap.size := (Array.getElem?_eq_some_iff.1 h).1
theorem Blk.cell (h : Blk w g t xs) {k : Nat} {v : Value} (hk : xs[k]? = some v) : w.cell? ⟨g, k, none⟩ = some v := by
  rw [cell_of_row _ _ k _ _ (0, 0) h]
  simpa using hk
theorem Blk.free (h : Blk w g t xs) (k : Nat) : w.frozen? ⟨g, k, none⟩ = false := by unfold World.frozen?; rw [h]; simp
theorem Blk.below (h : Blk w g t xs) (hb : Below B w w') (hg : g < B) : Blk w' g t xs := (hb.block g hg).trans h
theorem Blk.alloc (h : Blk w g t xs) (o : Obj) : Blk (w.alloc o) g t xs := h.below ((Below.refl w.heap.size w).alloc (Nat.le_refl _) o) h.lt
theorem Blk.drewN (h : Blk w g t xs) (n : Nat) : Blk (w.drewN n) g t xs := h
theorem Blk.only {g' : Nat} (h : Blk w g t xs) (hb : Only g' w w') (hg : g ≠ g') : Blk w' g t xs := (hb.block g hg).trans h
theorem Blk.other (h : Blk w g t xs) {a : Addr} (hg : g ≠ a.block) (v : Value) : Blk (w.setCell a v) g t xs := (Below.heap_setCell _ _ _ _ hg).trans h
theorem Blk.set (h : Blk w g t xs) (k : Nat) (v : Value) : Blk (w.setCell ⟨g, k, none⟩ v) g t (xs.set k v) := by
  unfold Blk
  rw [setCell_eq_setRow w g k _ _ (0, 0) _ h, setRow_heap w g _ _ _ _ h]
  congr 2
  apply Array.ext'
  simp
theorem Blk.row (h : Blk w g t xs) (ys : List Value) : Blk (w.setRow g ys.toArray) g t ys := setRow_heap w g _ _ _ _ h
theorem Blk.stores (h : Blk w g t xs) {ys : List Value} (hl : ys.length = xs.length) (h1 : ∀ v ∈ ys, v.oneCell' = true) : (storeCells ⟨g, 0, none⟩ ys.toArray.toList).run Try.prog w = .ok () (w.setRow g ys.toArray) := by
  have e := run_storeCells_at (P := Try.prog) g 0 _ ys.toArray.toList 0 _ w h (by simp; omega) (fun v hv => h1 v (by simpa using hv))
  rw [e]
  congr 2
  apply Array.ext'
  have : xs.length ≤ ys.length := by omega
  simp [this]
theorem Blk.cellsRow (h : Blk w g t xs) {ys : List Value} (hl : ys.length = xs.length) (h1 : ∀ v ∈ ys, v.oneCell' = true) : w.setCells g 0 ys = w.setRow g ys.toArray := by
  have a := h.stores hl h1
  have b := run_storeCells_cells (P := Try.prog) g 0 ys 0 w (fun j hj => by
      have : j < xs.length := by omega
      have hc := h.cell (k := j) (v := xs[j]) (by simp [this])
      simp [hc]) (fun j _ => h.free _) h1
  rw [List.toList_toArray] at a
  simp only [Nat.add_zero] at b
  rw [a] at b
  exact (Result.ok.inj b).2.symm
theorem below_setC (b B : Nat) (hB : B ≤ b) : ∀ (vs : List Value) (o : Nat) (w0 w : World), Below B w0 w → Below B w0 (w.setCells b o vs)
  | [], _, _, _, h => h
  | v :: vs, o, w0, w, h => by
    rw [World.setCells]
    exact below_setC b B hB vs (o + 1) w0 _ (below_put h (a := ⟨b, o, none⟩) hB v)
theorem Blk.self (h : Blk w g t xs) : w.setRow g xs.toArray = w := setRow_self _ _ _ _ _ h
end
theorem zs_at (L : List Nat) {k : Nat} (hk : k < L.length) : (zs (up L))[k]? = some (.int .i64 ((L.getD k 0 : Nat) : Int)) := by simp [zs, up, List.getD_eq_getElem?_getD, hk]
theorem nums_at (L : List Nat) {k : Nat} (hk : k < L.length) : (nums L)[k]? = some (.int .u64 ((L.getD k 0 : Nat) : Int)) := by simp [nums, List.getD_eq_getElem?_getD, hk]
theorem zs_setN (L : List Nat) (k v : Nat) : (zs (up L)).set k (.int .i64 (v : Int)) = zs (up (L.set k v)) := by simp [zs, up, List.map_set]
theorem nums_set2 (L : List Nat) (k v : Nat) : (nums L).set k (.int .u64 (v : Int)) = nums (L.set k v) := by simp [nums, List.map_set]
end Go.Proofs.Ytjnehpkkkmicfaa.Bk
