/- The program's lines: where they lie; take, front, text. -/
import Derived.Test.YtbcdnnppbggifaaMtfC
import Derived.Test.YtbcdnnppbggifaaApp
import Derived.Lib.BytesEntry
import Derived.Lib.Walk
import Derived.Laws.CopyOwn
import Derived.Deep.MidRow
import Derived.Deep.WholeRow
namespace Go.Proofs.Ytbcdnnppbggifaa.Mt
open Go.RowKit Go.Lib Rw Nm Ls Od

/-- nothing but block g is another -/
structure Only (g : Nat) (w w' : World) : Prop where
  os : w'.os = w.os
  tape : w'.tape = w.tape
  output : w'.output = w.output
  size : w'.heap.size = w.heap.size
  block : ∀ k, k ≠ g → w'.heap[k]? = w.heap[k]?
section
variable {g B : Nat} {w w' w2 : World} {L : List Nat}
theorem Only.refl (g : Nat) (w : World) : Only g w w := ⟨rfl, rfl, rfl, rfl, fun _ _ => rfl⟩
theorem Only.trans (h : Only g w w') (k : Only g w' w2) : Only g w w2 := ⟨k.os.trans h.os, k.tape.trans h.tape, k.output.trans h.output, k.size.trans h.size, fun i hi => (k.block i hi).trans (h.block i hi)⟩
theorem Only.drew (h : Only g w w') : Only g w w'.drew := ⟨h.os, h.tape, h.output, h.size, h.block⟩
theorem Only.below (h : Only g w w') (hB : B ≤ g) : Below B w w' := ⟨h.os, h.tape, h.output, Nat.le_of_eq h.size.symm, fun k hk => h.block k (by omega)⟩
theorem Only.setCell (h : Only g w w') (k : Nat) (v : Value) : Only g w (w'.setCell ⟨g, k, none⟩ v) :=
  ⟨h.os, h.tape, h.output, by simpa using h.size, fun i hi => by rw [Below.heap_setCell _ _ _ _ hi]; exact h.block i hi⟩
theorem Only.setRow (h : Only g w w') (cs : Array Value) : Only g w (w'.setRow g cs) :=
  ⟨h.os, h.tape, h.output, by simpa [World.setRow] using h.size, fun i hi => by rw [setRow_other _ _ _ _ hi]; exact h.block i hi⟩
/-- block g is a line -/
def Ln (w : World) (g : Nat) (L : List Nat) : Prop := w.heap[g]? = some (.cells (u8s L).toArray 41 (0, 0))
theorem Ln.lt (h : Ln w g L) : g < w.heap.size := (Array.getElem?_eq_some_iff.1 h).1
theorem Ln.cell (h : Ln w g L) {k : Nat} (hk : k < L.length) : w.cell? ⟨g, k, none⟩ = some (.int .u8 (L.getD k 0 : Nat)) := by
  rw [cell_of_row _ _ k _ _ (0, 0) h]
  simp [u8s, List.getD_eq_getElem?_getD, hk]
theorem Ln.free (h : Ln w g L) (k : Nat) : w.frozen? ⟨g, k, none⟩ = false := by unfold World.frozen?; rw [h]; simp
theorem Ln.drew (h : Ln w g L) : Ln w.drew g L := h
theorem Ln.drewN (h : Ln w g L) (n : Nat) : Ln (w.drewN n) g L := h
theorem Ln.below (h : Ln w g L) (hb : Below B w w') (hg : g < B) : Ln w' g L := (hb.block g hg).trans h
theorem Ln.alloc (h : Ln w g L) (o : Obj) : Ln (w.alloc o) g L := h.below ((Below.refl w.heap.size w).alloc (Nat.le_refl _) o) h.lt
theorem Ln.set (h : Ln w g L) {k : Nat} (x : Nat) : Ln (w.setCell ⟨g, k, none⟩ (.int .u8 (x : Int))) g (L.set k x) := by
  unfold Ln
  rw [setCell_eq_setRow w g k _ _ (0, 0) _ h, setRow_heap w g _ _ _ _ h]
  congr 2
  apply Array.ext'
  simp [u8s, List.map_set]
theorem Ln.row (h : Ln w g L) {M : List Nat} : Ln (w.setRow g (u8s M).toArray) g M := setRow_heap w g _ _ _ _ h
theorem Ln.size (L : List Nat) : (u8s L).toArray.size = L.length := by simp [u8s]
theorem Ln.load (h : Ln w g L) (hL : L.length = 256) : (Instr.loadAt 41 (.pointer (some ⟨g, 0, none⟩))).run Try.prog w = .ok (.agg (u8s L).toArray) w := by
  simp only [Instr.loadAt, Instr.sureAddr, Sem.run_bind, Sem.run_pure, Result.andThen_ok]
  exact run_loadVar_row w g _ _ _ _ _ h Try.underlying41 rfl (by rw [Ln.size, hL]; kernel_rfl)
theorem Ln.store (h : Ln w g L) {M : List Nat} (hL : L.length = 256) (hM : M.length = 256) : (Instr.storeAt 41 (.pointer (some ⟨g, 0, none⟩)) (.agg (u8s M).toArray)).run Try.prog w = .ok () (w.setRow g (u8s M).toArray) := by
  simp only [Instr.storeAt, Instr.sureAddr, Sem.run_bind, Sem.run_pure, Result.andThen_ok]
  exact run_storeVar_row w g _ _ _ _ h (by rw [Ln.size, hM]; kernel_rfl) (by rw [Ln.size, Ln.size, hL, hM]) (by simp [u8s]; intro x _; rfl)
theorem u8s_one (L : List Nat) : ∀ v ∈ u8s L, v.oneCell' = true := fun v hv => by simp only [u8s, List.mem_map] at hv; obtain ⟨z, _, rfl⟩ := hv; rfl
theorem Ln.stores (h : Ln w g L) {M : List Nat} (hl : M.length = L.length) : (storeCells ⟨g, 0, none⟩ (u8s M).toArray.toList).run Try.prog w = .ok () (w.setRow g (u8s M).toArray) := by
  have e := run_storeCells_at (P := Try.prog) g 0 _ (u8s M).toArray.toList 0 _ w h (by simp [u8s]; omega) (fun v hv => u8s_one M v (by simpa using hv))
  rw [e]
  congr 2
  apply Array.ext'
  have : (u8s L).length ≤ (u8s M).length := by rw [u8s_length, u8s_length]; omega
  simp [this]
end
theorem u8s_getD (L : List Nat) (k : Nat) (hk : k < L.length) : (u8s L)[k]? = some (.int .u8 (L.getD k 0 : Nat)) := by simp [u8s, List.getD_eq_getElem?_getD, hk]
theorem front_length {L : List Nat} {q : Nat} (hq : q < L.length) : (front L q).length = L.length := by simp [front]; omega
/-- the row behind the copy, and then its first -/
theorem front_set (L : List Nat) {q : Nat} (hq : q < L.length) : (L.take 1 ++ L.take q ++ L.drop (1 + q)).set 0 (L.getD q 0) = front L q := by
  cases L with
  | nil => simp at hq
  | cons x t => simp [front, Nat.add_comm]
theorem run_shift (g q : Nat) (L : List Nat) (w : World) (hL : L.length = 256) (hq : q < 256) (h : Ln w g L) :
    (Builtin.copy_ #[37, 37] 3 #[.slice (some ⟨g, 1, none⟩) 255 255, .slice (some ⟨g, 0, none⟩) q 256]).run Try.prog w = .ok (goInt q) (w.setRow g (u8s (L.take 1 ++ L.take q ++ L.drop (1 + q))).toArray) := by
  have ht : (u8s (L.take q)).length = q := by rw [u8s_length, List.length_take, hL]; omega
  have e := run_copy_row (P := Try.prog) w 37 37 3 5 g 1 255 255 ⟨g, 0, none⟩ q 256 (u8s L).toArray _ (u8s (L.take q)) Try.underlying37 (by kernel_rfl) h
    (by rw [ht]; exact (Nat.min_eq_left (by omega)).symm)
    (fun j v hj => by
      have hj2 : j < q := by have := (List.getElem?_eq_some_iff.1 hj).1; omega
      rw [u8s_getD _ _ (by rw [List.length_take]; omega)] at hj
      cases hj
      have e1 : ((⟨g, 0, none⟩ : Addr).add j) = ⟨g, j, none⟩ := by simp [Addr.add] <;> omega
      rw [e1, h.cell (by omega)]
      simp [List.getD_eq_getElem?_getD, hj2]) (by rw [ht, Ln.size]; omega) (fun v hv => by simp only [u8s, List.mem_map] at hv; obtain ⟨z, _, rfl⟩ := hv; rfl)
  rw [e, ht]
  congr 2
  apply Array.ext'
  simp [u8s]
theorem take_any (g q : Nat) (L : List Nat) (w : World) (hL : L.length = 256) (hq : q < 256) (h : Ln w g L) :
    Calls Try.prog 22 #[.pointer (some ⟨g, 0, none⟩), .int .u8 (q : Int)] w fun e w' => e = .returned (.int .u8 (L.getD q 0 : Nat)) ∧ Ln w' g (front L q) ∧ Only g w w' := by
  obtain ⟨x, hx⟩ : ∃ x, x = L.getD q 0 := ⟨_, rfl⟩
  have cq := h.cell (k := q) (by omega)
  rw [← hx] at cq ⊢
  have q0 : (0 : Int) ≤ (q : Int) := by omega
  have q1 : (q : Int) < 256 := by omega
  have q2 : (q : Int) ≤ 256 := by omega
  obtain ⟨M, hM⟩ : ∃ M, M = L.take 1 ++ L.take q ++ L.drop (1 + q) := ⟨_, rfl⟩
  have hcp := run_shift g q L w.drew hL hq h.drew
  rw [← hM] at hcp
  have HM : Hid (Ln (w.drew.setRow g (u8s M).toArray) g M) := Lib.hid h.drew.row
  have HO : Hid (Only g w (w.drew.setRow g (u8s M).toArray)) := Lib.hid ((Only.refl g w).drew.setRow _)
  have HF : Hid (M.set 0 x = front L q) := Lib.hid (by rw [hM, hx]; exact front_set L (by omega))
  have HL := Lib.hid h.lt
  have HL5 := Lib.hid hL
  clear hM hx hL h
  go_enter Try.func22, Try.ntmps22
  go_wp2_with fail
  go_region
  obtain ⟨w2, hw2⟩ : ∃ w2, w2 = w.drew.setRow g (u8s M).toArray := ⟨_, rfl⟩
  rw [← hw2] at HM HO ⊢
  have ML : M.length = 256 := by have := congrArg List.length HF.out; rw [List.length_set] at this; rw [this, front_length (by have := HL5.out; omega), HL5.out]
  have c0 := HM.out.cell (k := 0) (by omega)
  have f0 := HM.out.free 0
  have H3 : Hid (Ln (w2.setCell ⟨g, 0, none⟩ (.int .u8 (x : Int))) g (front L q)) := Lib.hid (by rw [← HF.out]; exact HM.out.set x)
  have H4 : Hid (Only g w (w2.setCell ⟨g, 0, none⟩ (.int .u8 (x : Int)))) := Lib.hid (HO.out.setCell 0 _)
  generalize M.getD 0 0 = y at c0
  clear hw2 hcp ML
  go_wp2_with fail
  go_ret
  exact ⟨rfl, H3.out, H4.out⟩
theorem idx_byte : ∀ (L : List Nat) (c : Nat), (∀ x ∈ L, x < 256) → c < 256 → c ∈ L → Lib.indexByte (Lib.bytesOf (L.map fun (n : Nat) => (n : Int))) (c : Int).toNat.toUInt8 = (L.idxOf c : Nat)
  | [], _, _, _, h => by simp at h
  | y :: L, c, hL, hc, h => by
    have hy := hL y (List.mem_cons_self ..)
    have e : (UInt8.ofNat y == (c : Int).toNat.toUInt8) = (y == c) := by
      by_cases h : y = c
      · subst h; simp [Nat.toUInt8]
      · rw [beq_eq_false_iff_ne.2 h, beq_eq_false_iff_ne]
        intro e; apply h
        have := congrArg UInt8.toNat e
        simp [Nat.toUInt8, Nat.mod_eq_of_lt hy, Nat.mod_eq_of_lt hc] at this
        omega
    simp only [Lib.bytesOf, List.map_cons, Lib.indexByte]
    rw [show ((y : Int).toNat) = y from rfl, e]
    by_cases hyc : y = c
    · subst hyc; simp
    · have hm : c ∈ L := by simpa [Ne.symm hyc] using h
      have ih := idx_byte L c (fun x hx => hL x (List.mem_cons_of_mem _ hx)) hc hm
      unfold Lib.bytesOf at ih
      rw [ih, List.idxOf_cons, beq_eq_false_iff_ne.2 hyc]
      simp
theorem ixbyte_any (g c : Nat) (L : List Nat) (w : World) (hL : Row 256 L) (hc : c < 256) (h : Ln w g L) :
    Calls Try.prog 25 #[.slice (some ⟨g, 0, none⟩) 256 256, .int .u8 (c : Int)] w fun e w' => e = .returned (.int .i64 (L.idxOf c : Nat)) ∧ w' = w := by
  have hr := Lib.run_indexByteSlice (P := Try.prog) w g 0 256 256 (L.map fun (n : Nat) => (n : Int)) (by simp [hL.1]) (fun i hi => by
    rw [Nat.zero_add, h.cell (by rw [hL.1]; exact hi)]
    simp [List.getD_eq_getElem?_getD, hL.1, hi]) (c : Int)
  rw [idx_byte L c (fun x hx => row_lt hL hx) hc (hL.2 c hc)] at hr
  clear hL h
  go_enter Try.func25, Try.ntmps25
  go_wp2
  rw [run_callFunc_extern Try.func26 (by kernel_rfl) (by kernel_rfl) (by kernel_rfl) (e := Extern.BytealgIndexByte.indexByte) (by kernel_rfl), hr]
  simp only [Result.andThen]
  rw [Oper.upon_value]
  go_wp2
  go_ret
  exact ⟨rfl, rfl⟩
theorem fronts_any (g c : Nat) (L : List Nat) (w : World) (hL : Row 256 L) (hc : c < 256) (h : Ln w g L) :
    Calls Try.prog 19 #[.pointer (some ⟨g, 0, none⟩), .int .u8 (c : Int)] w fun e w' => e = .returned (.int .u8 (L.idxOf c : Nat)) ∧ Ln w' g (front L (L.idxOf c)) ∧ Only g w w' := by
  have hi := idx_lt hL hc
  have H1 := Lib.hid (ixbyte_any g c L w hL hc h)
  obtain ⟨q, hq⟩ : ∃ q, q = L.idxOf c := ⟨_, rfl⟩
  rw [← hq] at hi H1 ⊢
  have H2 := Lib.hid (take_any g q L w hL.1 hi h)
  have ew : IntKind.u8.wrap (q : Int) = (q : Int) := IntWalk.u8_in _ (by omega)
  clear hq hL h
  go_enter Try.func19, Try.ntmps19
  go_wp2_with fail
  refine H1.out.mono ?_
  rintro e w1 ⟨rfl, rfl⟩
  go_wp2_with fail
  refine H2.out.mono ?_
  rintro e w2 ⟨rfl, h3, h4⟩
  have H3 := Lib.hid h3; have H4 := Lib.hid h4
  clear h3 h4
  go_wp2_with fail
  go_ret
  exact ⟨rfl, H3.out, H4.out⟩
theorem text_any (L : List Nat) (w : World) (hL : Row 256 L) :
    Calls Try.prog 24 #[.agg (u8s L).toArray] w fun e w' => e = .returned (.string (ofN L)) ∧ Below w.heap.size w w' := by
  have hs : ∀ x ∈ L, x < 256 := fun x hx => row_lt hL hx
  obtain ⟨w2, hw2⟩ : ∃ w2, w2 = w.alloc (.cells (u8s L).toArray 41) := ⟨_, rfl⟩
  have hn : Ln w2 w.heap.size L := by rw [hw2]; exact heap_alloc_new w _
  have hby : Row.Bytes w2 w.heap.size (L.map UInt8.ofNat) := by
    refine ⟨hn.lt, fun j hj => ?_, fun j _ => hn.free j⟩
    rw [List.length_map] at hj
    rw [hn.cell hj]
    have := hs _ (List.getElem_mem hj)
    simp [List.getD_eq_getElem?_getD, hj, Nat.mod_eq_of_lt this]
  have hbk := Row.run_back hby 256
  rw [List.length_map, hL.1] at hbk
  obtain ⟨S, hS⟩ : ∃ S : ByteArray, S = ⟨(L.map UInt8.ofNat).toArray⟩ := ⟨_, rfl⟩
  rw [← hS] at hbk
  have HB : Hid (Below w.heap.size w w2) := Lib.hid (by rw [hw2]; exact (Below.refl _ w).alloc (Nat.le_refl _) _)
  have HS : Hid (S = ofN L) := Lib.hid hS
  clear hS hby hn hL hs
  have HW := Lib.hid hw2
  rw [hw2] at hbk
  generalize (u8s L).toArray = V at HW hw2 hbk ⊢
  clear hw2
  go_enter Try.func24, Try.ntmps24
  go_wp2_with fail
  rw [← HW.out]
  go_ret
  exact ⟨by rw [HS.out]; rfl, HB.out⟩
end Go.Proofs.Ytbcdnnppbggifaa.Mt
