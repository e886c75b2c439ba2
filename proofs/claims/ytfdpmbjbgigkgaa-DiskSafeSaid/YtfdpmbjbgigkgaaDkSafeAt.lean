/- DiskSafe: where the loop of writes stands. -/
import Derived.Test.YtfdpmbjbgigkgaaDkLives
import Derived.Test.YtfdpmbjbgigkgaaDkThyS
import Derived.Test.YtfdpmbjbgigkgaaDkOpen
namespace Go.Proofs.Ytfdpmbjbgigkgaa.Dk
open Go.RowKit Go.Op

theorem VarAt.bar2 {w w' : World} {D : Dsk} {v : DVal} {p : Nat → Prop} (h : VarAt w D v) (hb : Bar w w' p) (h1 : D.E ≠ [] → ∀ a, v.pE = some a → ¬ p a.block) (h2 : D.W ≠ [] → ∀ a, v.pW = some a → ¬ p a.block) : VarAt w' D v := by
  refine ⟨h.hE, ?_, h.hW, ?_, h.lim⟩
  · intro i hi
    exact (h.E.bar hb (h1 (fun e => by rw [e] at hi; simp at hi))) i hi
  · intro i hi
    exact (h.W.bar hb (h2 (fun e => by rw [e] at hi; simp at hi))) i hi
theorem strs_snoc (ms : List ByteArray) (y : ByteArray) : strs (ms ++ [y]) = strs ms ++ [.string y] := by simp [strs]
theorem strs_len (ms : List ByteArray) : (strs ms).length = ms.length := by simp [strs]
/-- where the loop of writes stands -/
structure SafeAt (w : World) (gM : Nat) (D1 : Dsk) (nm : ByteArray) (s : Int) (k : Nat) (my : Value) (wr : World) (Dk : Dsk) (vk : DVal) (ms : List ByteArray) : Prop where
  box : Boxed wr w.heap.size [.int .i64 Dk.size, .slice vk.pE vk.nE vk.cE, .slice vk.pW vk.nW vk.cW, .int .i64 Dk.fuse, .bool Dk.down]
  va : VarAt wr Dk vk
  row : wr.ownsRow gM 9 1 my ms.length (strs ms)
  ab : vk.above (w.heap.size + 1)
  s1 : Dk.E ≠ [] → ∀ a, vk.pE = some a → my.ownBlock ≠ some a.block
  s2 : Dk.W ≠ [] → ∀ a, vk.pW = some a → my.ownBlock ≠ some a.block
  len : ms.length ≤ k + 1
  bel : Below w.heap.size w wr
  safe : Safe D1 Dk nm s ms
  g1 : w.heap.size < gM
  g2 : gM < wr.heap.size
section
variable {w : World} {gM : Nat} {D1 : Dsk} {nm : ByteArray} {s : Int} {k : Nat} {my : Value} {wr : World} {Dk : Dsk} {vk : DVal} {ms : List ByteArray}
theorem SafeAt.below {w' : World} (h : SafeAt w gM D1 nm s k my wr Dk vk ms) (hb : Below wr.heap.size wr w') : SafeAt w gM D1 nm s k my w' Dk vk ms :=
  ⟨h.box.below hb, h.va.below hb, Rw.own_below h.row hb, h.ab, h.s1, h.s2, h.len, h.bel.trans (hb.mono h.bel.size), h.safe, h.g1, Nat.lt_of_lt_of_le h.g2 hb.size⟩
theorem SafeAt.own {g : Nat} (h : SafeAt w gM D1 nm s k my wr Dk vk ms) (hg : my.ownBlock = some g) : gM ≤ g ∧ g < wr.heap.size := h.row.lt g hg
/-- the disk is another one, whose rows are new -/
theorem SafeAt.store {w' : World} {De : Dsk} {ve : DVal} {C : Nat} (h : SafeAt w gM D1 nm s k my wr Dk vk ms) (hv : VarAt wr De ve) (hC : ∀ g, my.ownBlock = some g → g < C) (hC2 : w.heap.size < C) (ha : ve.above C) (hs : Safe D1 De nm s ms)
    (hb : Bar wr w' (fun j => j = w.heap.size)) (hx : Boxed w' w.heap.size [.int .i64 De.size, .slice ve.pE ve.nE ve.cE, .slice ve.pW ve.nW ve.cW, .int .i64 De.fuse, .bool De.down]) : SafeAt w gM D1 nm s k my w' De ve ms :=
  ⟨hx, hv.bar ha hb (fun j hj => by omega), own_bar h.row hb (fun g hg e => by have := (h.own hg).1; have := h.g1; omega), ⟨fun a e => by have := ha.1 a e; omega, fun a e => by have := ha.2 a e; omega⟩,
   fun _ a e hg => by have := ha.1 a e; have := hC _ hg; omega, fun _ a e hg => by have := ha.2 a e; have := hC _ hg; omega,
   h.len, h.bel.trans (hb.below (fun j _ e => by omega) h.bel.size), hs, h.g1, Nat.lt_of_lt_of_le h.g2 hb.size⟩
end
theorem SafeAt.up {w : World} {gM : Nat} {D1 : Dsk} {nm : ByteArray} {s : Int} {k : Nat} {my : Value} {wr : World} {Dk : Dsk} {vk : DVal} {ms : List ByteArray} (h : SafeAt w gM D1 nm s k my wr Dk vk ms) : SafeAt w gM D1 nm s (k + 1) my wr Dk vk ms :=
  ⟨h.box, h.va, h.row, h.ab, h.s1, h.s2, Nat.le_succ_of_le h.len, h.bel, h.safe, h.g1, h.g2⟩
/-- a text more, and the disk is another one, whose rows are new -/
theorem SafeAt.push {w : World} {gM : Nat} {D1 : Dsk} {nm : ByteArray} {s : Int} {k : Nat} {my : Value} {wr w5 w' : World} {Dk De : Dsk} {vk ve : DVal} {ms : List ByteArray} {y : ByteArray} {g2 cap C : Nat}
    (h : SafeAt w gM D1 nm s k my wr Dk vk ms) (hv : VarAt wr De ve) (hC : ∀ g, my.ownBlock = some g → g < C) (hC2 : w.heap.size < C) (ha : ve.above C) (hs : Safe D1 De nm s (ms ++ [y]))
    (hrow : w5.ownsRow gM 9 1 (.slice (some ⟨g2, 0, none⟩) (ms.length + 1) cap) (ms.length + 1) (strs ms ++ [.string y])) (hgr : wr.grownBy w5 my.ownBlock) (ho : my.ownBlock = some g2 ∨ wr.heap.size < g2) (hbel : Below gM wr w5)
    (hb : Bar w5 w' (fun j => j = w.heap.size)) (hx : Boxed w' w.heap.size [.int .i64 De.size, .slice ve.pE ve.nE ve.cE, .slice ve.pW ve.nW ve.cW, .int .i64 De.fuse, .bool De.down]) : SafeAt w gM D1 nm s (k + 1) (.slice (some ⟨g2, 0, none⟩) (ms.length + 1) cap) w' De ve (ms ++ [y]) := by
  have hb5 : Bar wr w5 (fun j => my.ownBlock = some j) := ⟨hgr.os, hgr.tape, hgr.output, hgr.size, fun i hi hp => hgr.block i hi (fun e => hp e.symm)⟩
  have hg := hrow.lt g2 rfl
  have v5 := hv.bar ha hb5 (fun j hj => hC j hj)
  have l1 := h.g1
  have l2 := h.g2
  have l3 := hgr.size
  have l4 := hb.size
  refine ⟨hx, v5.bar ha hb (fun j hj => by omega), ?_, ⟨fun a e => by have := ha.1 a e; omega, fun a e => by have := ha.2 a e; omega⟩, ?_, ?_, by simp; exact h.len, (h.bel.trans (hbel.mono (by omega))).trans (hb.below (fun j _ e => by omega) (by omega)), hs, l1, by omega⟩
  · rw [strs_snoc, List.length_append, List.length_singleton]
    exact own_bar hrow hb (fun g hg' e => by simp [Value.ownBlock] at hg'; omega)
  · intro hne a e hg'
    simp [Value.ownBlock] at hg'
    have h1 := ha.1 a e
    obtain ⟨g, o, e2, hl, _⟩ := hv.E 0 (List.length_pos_iff.2 hne)
    rw [e] at e2
    cases e2
    simp only at h1 hg'
    rcases ho with ho | ho
    · have := hC _ ho; omega
    · omega
  · intro hne a e hg'
    simp [Value.ownBlock] at hg'
    have h1 := ha.2 a e
    obtain ⟨g, o, e2, hl, _⟩ := hv.W 0 (List.length_pos_iff.2 hne)
    rw [e] at e2
    cases e2
    simp only at h1 hg'
    rcases ho with ho | ho
    · have := hC _ ho; omega
    · omega
theorem row_built (W : World) (x : ByteArray) : (W.alloc (.cells #[.string x] 9)).ownsRow W.heap.size 9 1 (.slice (some ⟨W.heap.size, 0, none⟩) 1 1) 1 (strs [x]) :=
  ⟨rfl, .inr ⟨W.heap.size, 1, #[.string x], rfl, Nat.le_refl _, heap_alloc_new W _, Nat.le_refl _, by unfold maxLen; omega, rfl, rfl⟩⟩
theorem info_str : (Try.prog.info? 9).map (fun i => (i.zero, i.size, i.bytes)) = some (some (.string ⟨#[]⟩), 1, 16) := by kernel_rfl

end Go.Proofs.Ytfdpmbjbgigkgaa.Dk
