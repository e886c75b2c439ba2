/- The document's without. The document's New. The document's Free. The document's Move. -/
import Derived.Test.YtejmbbhbimgheaaDkRefL2
import Derived.Test.YtejmbbhbimgheaaDkSame
import Derived.Test.YtejmbbhbimgheaaDkRefH
namespace Go.Proofs.Ytejmbbhbimgheaa.Dk
open Go.RowKit Go.Op Rw

/-- a disk that is gathered, behind the variables of what is read and of what is answered -/
structure WoI (w W : World) (D : Dsk) (v : DVal) (E : List Ext) (L : List Wr) (p : Option Addr) (m c : Nat) (p2 : Option Addr) (m2 c2 : Nat) : Prop where
  two : Two w W D v
  o : Boxed W (w.heap.size + 1 + 1) [.int .i64 D.size, .slice p m c, .slice p2 m2 c2, .int .i64 D.fuse, .bool D.down]
  rowE : W.ownsRow (w.heap.size + 3) 58 2 (.slice p m c) m (eRow E)
  rowW : W.ownsRow (w.heap.size + 3) 63 3 (.slice p2 m2 c2) m2 (wRow L)
  ap : ∀ a b : Addr, p = some a → p2 = some b → a.block ≠ b.block
  okE : EOk E
  okW : WOk L
theorem WoI.le {w W : World} {D : Dsk} {v : DVal} {E : List Ext} {L : List Wr} {p : Option Addr} {m c : Nat} {p2 : Option Addr} {m2 c2 : Nat} (h : WoI w W D v E L p m c p2 m2 c2) : w.heap.size + 3 ≤ W.heap.size := h.o.lt
theorem WoI.below {w W W' : World} {D : Dsk} {v : DVal} {E : List Ext} {L : List Wr} {p : Option Addr} {m c : Nat} {p2 : Option Addr} {m2 c2 : Nat} (h : WoI w W D v E L p m c p2 m2 c2) (hb : Below W.heap.size W W') : WoI w W' D v E L p m c p2 m2 c2 :=
  ⟨h.two.below hb, h.o.below hb, own_below h.rowE hb, own_below h.rowW hb, h.ap, h.okE, h.okW⟩
theorem blk_of {p : Option Addr} {n c k : Nat} (h : (Value.slice p n c).ownBlock = some k) : ∃ a, p = some a ∧ a.block = k := by
  cases p with
  | none => simp [Value.ownBlock] at h
  | some a => simp only [Value.ownBlock, Option.some.injEq] at h; exact ⟨a, rfl, h⟩
theorem bar_of_grown {W w5 : World} {o : Option Nat} (hg : W.grownBy w5 o) : Bar W w5 (fun k => o = some k) := ⟨hg.os, hg.tape, hg.output, hg.size, fun k hk hp => hg.block k hk (fun e => hp e.symm)⟩
theorem two_put {w W w5 : World} {D : Dsk} {v : DVal} {B i : Nat} (h : Two w W D v) (hb : Below B W w5) (hB : w.heap.size + 1 < B) (u : Value) : Two w (w5.setCell ⟨w.heap.size + 1 + 1, i, none⟩ u) D v := by
  have hbar : Bar w5 (w5.setCell ⟨w.heap.size + 1 + 1, i, none⟩ u) (fun k => k = w.heap.size + 1 + 1) := (Bar.refl _ (fun k => k = w.heap.size + 1 + 1)).setCell (q := ⟨w.heap.size + 1 + 1, i, none⟩) rfl u
  have hlt := h.lt
  have l0 : w.heap.size < B := by omega
  have l2 : w.heap.size ≤ B := by omega
  have hs := hb.size
  have h5 : Below w.heap.size w w5 := h.b.trans (hb.mono l2)
  exact ⟨(h.d.belowB hb l0).bar hbar (by omega), (h.r.belowB hb hB).bar hbar (by omega), h5.setCell (p := ⟨w.heap.size + 1 + 1, i, none⟩) (by simp; omega) u⟩
theorem WoI.pushE {w W w5 : World} {D : Dsk} {v : DVal} {E : List Ext} {L : List Wr} {p : Option Addr} {m c : Nat} {p2 : Option Addr} {m2 c2 : Nat} (h : WoI w W D v E L p m c p2 m2 c2) {g cap : Nat} {x y : ByteArray}
    (hown : w5.ownsRow (w.heap.size + 3) 58 2 (.slice (some ⟨g, 0, none⟩) (m + 1) cap) (m + 1) (eRow E ++ [.string x, .string y])) (hg : W.grownBy w5 (Value.slice p m c).ownBlock) (hgg : (Value.slice p m c).ownBlock = some g ∨ W.heap.size < g) (hb : Below (w.heap.size + 3) W w5)
    (hx : x.size ≤ 140737488355328) (hy : y.size ≤ 140737488355328) :
    WoI w (w5.setCell ⟨w.heap.size + 1 + 1, 1, none⟩ (.slice (some ⟨g, 0, none⟩) (m + 1) cap)) D v (E ++ [(x, y)]) L (some ⟨g, 0, none⟩) (m + 1) cap p2 m2 c2 := by
  have hbar : Bar w5 (w5.setCell ⟨w.heap.size + 1 + 1, 1, none⟩ (.slice (some ⟨g, 0, none⟩) (m + 1) cap)) (fun k => k = w.heap.size + 1 + 1) := (Bar.refl _ (fun k => k = w.heap.size + 1 + 1)).setCell (q := ⟨w.heap.size + 1 + 1, 1, none⟩) rfl _
  have hgl := hown.lt g rfl
  have e : eRow (E ++ [(x, y)]) = eRow E ++ [.string x, .string y] := by rw [eRow_app]; rfl
  have hW5 := own_bar h.rowW (bar_of_grown hg) (fun k e2 e1 => by
    obtain ⟨a, ha, hak⟩ := blk_of e1
    obtain ⟨b, hb2, hbk⟩ := blk_of e2
    exact h.ap a b ha hb2 (by rw [hak, hbk]))
  refine ⟨two_put h.two hb (by omega) _, (h.o.belowB hb (by omega)).set (i := 1) (by simp) _, ?_, own_bar hW5 hbar (fun k e2 hk => ?_), ?_, ?_, h.okW⟩
  · rw [e]; exact own_bar hown hbar (fun k e2 hk => by simp [Value.ownBlock] at e2; omega)
  · obtain ⟨b, hb2, hbk⟩ := blk_of e2
    have := (own_aboveV h.rowW b hb2).1
    omega
  · intro a b ea eb
    cases ea
    rcases hgg with hgg | hgg
    · obtain ⟨a', ha', hak⟩ := blk_of hgg
      have := h.ap a' b ha' eb
      show g ≠ b.block
      rw [← hak]; exact this
    · have := (own_aboveV h.rowW b eb).2
      show g ≠ b.block
      omega
  · intro i hi
    simp only [List.length_append, List.length_singleton] at hi
    rcases Nat.lt_or_ge i E.length with hi2 | hi2
    · have := h.okE i hi2
      simpa [List.getD_eq_getElem?_getD, List.getElem?_append_left hi2] using this
    · obtain rfl : i = E.length := by omega
      simpa [List.getD_eq_getElem?_getD] using ⟨hx, hy⟩
theorem WoI.pushW {w W w5 : World} {D : Dsk} {v : DVal} {E : List Ext} {L : List Wr} {p : Option Addr} {m c : Nat} {p2 : Option Addr} {m2 c2 : Nat} (h : WoI w W D v E L p m c p2 m2 c2) {g cap : Nat} {x y : ByteArray} {s : Int}
    (hown : w5.ownsRow (w.heap.size + 3) 63 3 (.slice (some ⟨g, 0, none⟩) (m2 + 1) cap) (m2 + 1) (wRow L ++ [.string x, .int .i64 s, .string y])) (hg : W.grownBy w5 (Value.slice p2 m2 c2).ownBlock) (hgg : (Value.slice p2 m2 c2).ownBlock = some g ∨ W.heap.size < g) (hb : Below (w.heap.size + 3) W w5)
    (hx : x.size ≤ 140737488355328) (hy : y.size ≤ 140737488355328) :
    WoI w (w5.setCell ⟨w.heap.size + 1 + 1, 2, none⟩ (.slice (some ⟨g, 0, none⟩) (m2 + 1) cap)) D v E (L ++ [(x, s, y)]) p m c (some ⟨g, 0, none⟩) (m2 + 1) cap := by
  have hbar : Bar w5 (w5.setCell ⟨w.heap.size + 1 + 1, 2, none⟩ (.slice (some ⟨g, 0, none⟩) (m2 + 1) cap)) (fun k => k = w.heap.size + 1 + 1) := (Bar.refl _ (fun k => k = w.heap.size + 1 + 1)).setCell (q := ⟨w.heap.size + 1 + 1, 2, none⟩) rfl _
  have hgl := hown.lt g rfl
  have e : wRow (L ++ [(x, s, y)]) = wRow L ++ [.string x, .int .i64 s, .string y] := by rw [wRow_app]; rfl
  have hE5 := own_bar h.rowE (bar_of_grown hg) (fun k e2 e1 => by
    obtain ⟨b, hb2, hbk⟩ := blk_of e1
    obtain ⟨a, ha, hak⟩ := blk_of e2
    exact h.ap a b ha hb2 (by rw [hak, hbk]))
  refine ⟨two_put h.two hb (by omega) _, (h.o.belowB hb (by omega)).set (i := 2) (by simp) _, own_bar hE5 hbar (fun k e2 hk => ?_), ?_, ?_, h.okE, ?_⟩
  · obtain ⟨b, hb2, hbk⟩ := blk_of e2
    have := (own_aboveV h.rowE b hb2).1
    omega
  · rw [e]; exact own_bar hown hbar (fun k e2 hk => by simp [Value.ownBlock] at e2; omega)
  · intro a b ea eb
    cases eb
    rcases hgg with hgg | hgg
    · obtain ⟨a', ha', hak⟩ := blk_of hgg
      have := h.ap a a' ea ha'
      show a.block ≠ g
      rw [← hak]; exact this
    · have := (own_aboveV h.rowE a ea).2
      show a.block ≠ g
      omega
  · intro i hi
    simp only [List.length_append, List.length_singleton] at hi
    rcases Nat.lt_or_ge i L.length with hi2 | hi2
    · have := h.okW i hi2
      simpa [List.getD_eq_getElem?_getD, List.getElem?_append_left hi2] using this
    · obtain rfl : i = L.length := by omega
      simpa [List.getD_eq_getElem?_getD] using ⟨hx, hy⟩
theorem keptE_put (P : ByteArray → Bool) (E : List Ext) (k : Nat) (hk : k < E.length) : keptEn P (E.take (k + 1)) = if P (E.getD k default).1 = true then keptEn P (E.take k) else keptEn P (E.take k) ++ [((E.getD k default).1, (E.getD k default).2)] := by
  unfold keptEn keptE
  rw [List.take_succ_eq_append_getElem hk, List.filter_append]
  have e : E[k] = E.getD k default := (getD_getE E k hk).symm
  rw [e]
  generalize E.getD k default = x
  cases hp : P x.1 <;> simp [hp]
theorem keptW_put (P : ByteArray → Bool) (L : List Wr) (k : Nat) (hk : k < L.length) : keptWn P (L.take (k + 1)) = if P (L.getD k default).1 = true then keptWn P (L.take k) else keptWn P (L.take k) ++ [((L.getD k default).1, (L.getD k default).2.1, (L.getD k default).2.2)] := by
  unfold keptWn keptW
  rw [List.take_succ_eq_append_getElem hk, List.filter_append]
  have e : L[k] = L.getD k default := by simp [List.getD_eq_getElem?_getD, List.getElem?_eq_getElem hk]
  rw [e]
  generalize L.getD k default = x
  cases hp : P x.1 <;> simp [hp]
def woD (D : Dsk) (nm : ByteArray) : Dsk := ⟨D.size, keptEn (nmEq nm) D.E, keptWn (nmEq nm) D.W, D.fuse, D.down⟩
set_option maxHeartbeats 16000000 in
set_option maxRecDepth 100000 in
theorem rwithout_any (D : Dsk) (v : DVal) (nm : ByteArray) (w : World) (h : VarAt w D v) (hE : v.nE ≤ 1000000) (hWl : v.nW ≤ 1000000) :
    Calls Try.prog 40 #[.agg #[.int .i64 D.size, .slice v.pE v.nE v.cE, .slice v.pW v.nW v.cW, .int .i64 D.fuse, .bool D.down], .string nm] w (CpP w (woD D nm)) := by
  obtain ⟨i0, hi0, hz0, hz1, hz2⟩ := info_parts info_ext
  obtain ⟨i1, hi1, hy0, hy1, hy2⟩ := info_parts info_wr
  obtain ⟨W2, hW2⟩ : ∃ W2, W2 = ((w.alloc (.cells #[.int .i64 D.size, .slice v.pE v.nE v.cE, .slice v.pW v.nW v.cW, .int .i64 D.fuse, .bool D.down] 25)).alloc (.cells #[.int .i64 0, .slice none 0 0, .slice none 0 0, .int .i64 0, .bool false] 25)) := ⟨_, rfl⟩
  have tw := Two.new w D v
  rw [← hW2] at tw
  obtain ⟨W3, hW3⟩ : ∃ W3, W3 = W2.alloc (.cells #[.int .i64 D.size, .slice none 0 0, .slice none 0 0, .int .i64 D.fuse, .bool D.down] 25) := ⟨_, rfl⟩
  have t3 : Below W2.heap.size W2 W3 := by rw [hW3]; exact (Below.refl _ _).alloc (Nat.le_refl _) _
  have s2 : W2.heap.size = w.heap.size + 1 + 1 := by rw [hW2]; simp
  have ob : Boxed W3 (w.heap.size + 1 + 1) [.int .i64 D.size, .slice none 0 0, .slice none 0 0, .int .i64 D.fuse, .bool D.down] := by
    have := Boxed.new W2 #[.int .i64 D.size, .slice none 0 0, .slice none 0 0, .int .i64 D.fuse, .bool D.down] 25
    rw [← hW3, s2] at this
    exact this
  have WI : Hid (WoI w W3 D v [] [] none 0 0 none 0 0) := Lib.hid ⟨tw.below t3, ob, World.ownsRow_nil _ _ _ _, World.ownsRow_nil _ _ _ _, fun a b e _ => absurd e (by simp), fun i hi => absurd hi (by simp), fun i hi => absurd hi (by simp)⟩
  have HVv : Hid (∀ W, Below w.heap.size w W → VarAt W D v) := Lib.hid (fun W hb => h.below hb)
  have HW2 := Lib.hid hW2; have HW3 := Lib.hid hW3
  have HNE := Lib.hid h.hE; have HNW := Lib.hid h.hW; have HLF := Lib.hid h.lim
  have HWF : Hid (W3 = ((w.alloc (.cells #[.int .i64 D.size, .slice v.pE v.nE v.cE, .slice v.pW v.nW v.cW, .int .i64 D.fuse, .bool D.down] 25)).alloc (.cells #[.int .i64 0, .slice none 0 0, .slice none 0 0, .int .i64 0, .bool false] 25)).alloc (.cells #[.int .i64 D.size, .slice none 0 0, .slice none 0 0, .int .i64 D.fuse, .bool D.down] 25)) := Lib.hid (by rw [hW3, hW2])
  clear h tw hW2 hW3 t3 s2 ob
  obtain ⟨z, E, L, fz, dn⟩ := D
  obtain ⟨pE, nE, cE, pW, nW, cW⟩ := v
  simp only at WI HVv HNE HNW HWF hE hWl ⊢
  go_enter Try.func40, Try.ntmps40
  go_wp2_with fail
  rw [← HWF.out]
  clear HW2 HW3 HWF
  go_loopw [7, 20] (fun _ i wr => ∃ (k : Nat) (p : Option Addr) (m c : Nat), k ≤ nE ∧ i = .int .i64 k ∧ WoI w wr ⟨z, E, L, fz, dn⟩ ⟨pE, nE, cE, pW, nW, cW⟩ (keptEn (nmEq nm) (E.take k)) [] p m c none 0 0) (fun _ i _ => nE - (intOf i).toNat)
  case atStart => exact ⟨0, none, 0, 0, by omega, rfl, WI.out⟩
  case round =>
    obtain ⟨k, p, m, c, hk, rfl, hwo⟩ := hrel
    by_cases hlt : k < nE
    · have hkE : k < E.length := by rw [← HNE.out]; exact hlt
      have hE0 : ExtAt wr pE E := (HVv.out _ hwo.two.b).E
      obtain ⟨ga, oa, rfl, hga, d0, d1, s1, s2⟩ := hE0 k hkE
      have hst := keptE_put (nmEq nm) E k hkE
      obtain ⟨x, hx⟩ : ∃ x, x = (E.getD k default).1 := ⟨_, rfl⟩
      obtain ⟨y, hy⟩ : ∃ y, y = (E.getD k default).2 := ⟨_, rfl⟩
      rw [← hx] at d0 s1 hst; rw [← hy] at d1 s2 hst
      obtain ⟨W5, hW5⟩ : ∃ W5, W5 = wr.alloc (.cells #[.string x, .string y] 58) := ⟨_, rfl⟩
      have t5 : Below wr.heap.size wr W5 := by rw [hW5]; exact (Below.refl _ _).alloc (Nat.le_refl _) _
      have hwo5 := hwo.below t5
      have m0 : (0 : Int) ≤ (k : Int) := by omega
      have m1 : (k : Int) < (nE : Int) := by omega
      have hle := hwo.le
      have lw : w.heap.size < wr.heap.size := by omega
      have l2 : w.heap.size + 1 + 1 < wr.heap.size := by omega
      have ln : ¬ (wr.heap.size = w.heap.size + 1 + 1) := by omega
      have ln2 : ¬ (w.heap.size + 1 + 1 = wr.heap.size) := by omega
      obtain ⟨q0, q1, q2, q3, q4⟩ := hwo.two.d.five
      obtain ⟨o0, o1, o2, o3, o4⟩ := hwo.o.five
      obtain ⟨f0, f1, f2, f3, f4⟩ := hwo.o.fiveF
      simp only at q0 q1 q2 q3 q4
      have HST := Lib.hid hst; have HWO := Lib.hid hwo5; have HW5 := Lib.hid hW5
      have hmb : m ≤ 1000000 := by
        have h1 := hwo.rowE.1
        rw [eRow_length] at h1
        have h2 : (keptEn (nmEq nm) (E.take k)).length ≤ (E.take k).length := List.length_filter_le _ _
        rw [List.length_take] at h2
        omega
      have HSz : Hid (W5.heap.size = wr.heap.size + 1) := Lib.hid (by rw [hW5]; simp)
      have HMB := Lib.hid hmb
      have HRow : Hid ((wr.alloc (.cells #[.string x, .string y] 58)).ownsRow (w.heap.size + 3) 58 2 (.slice p m c) m (eRow (keptEn (nmEq nm) (E.take k)))) := Lib.hid (by rw [← hW5]; exact hwo5.rowE)
      have HS3 : Hid (w.heap.size + 3 ≤ (wr.alloc (.cells #[.string x, .string y] 58)).heap.size) := Lib.hid (by simp; omega)
      have HSx : Hid ((wr.alloc (.cells #[.string x, .string y] 58)).heap.size = wr.heap.size + 1) := Lib.hid (by simp)
      by_cases he : x = nm
      · have t1 : (x.toList == nm.toList) = true := by rw [he]; simp
        have HNx : Hid (keptEn (nmEq nm) (E.take (k + 1)) = keptEn (nmEq nm) (E.take k)) := Lib.hid (by rw [HST.out, if_pos (nmEq_iff.2 he)])
        clear he hst hx hy hwo hwo5 t5 hW5 hkE hmb hE0 HRow
        go_wp2_with fail
        rw [← HW5.out]
        go_roundw
        case rel => exact ⟨k + 1, p, m, c, by omega, by go_num, by rw [HNx.out]; exact HWO.out⟩
        case measure => simp [intOf]; omega
      · have t1 : (x.toList == nm.toList) = false := by rw [beq_eq_false_iff_ne]; exact fun h => he (toList_inj h)
        have HNx : Hid (keptEn (nmEq nm) (E.take (k + 1)) = keptEn (nmEq nm) (E.take k) ++ [(x, y)]) := Lib.hid (by
          rw [HST.out, if_neg (fun h => he (nmEq_iff.1 h))])
        have s1' := Lib.hid s1; have s2' := Lib.hid s2
        clear he hst hx hy hwo hwo5 t5 hW5 hkE hmb hE0 s1 s2
        go_wp2_with (at_builtin; refine Rw.push rfl _ _ 22 rfl (w.heap.size + 3) 58 i0 (.agg #[.string ⟨#[]⟩, .string ⟨#[]⟩]) 2 32 Try.underlying22 hi0 hz0 hz1 hz2 rfl (by decide) (.slice p m c) m (eRow (keptEn (nmEq nm) (E.take k))) rfl HRow.out [.string x, .string y] (by rw [HSx.out]; rfl) rfl rfl (by have := HMB.out; omega) (by decide) HS3.out ?_)
        rw [← HW5.out]
        intro g cap w5 hown5 hgr hgg hlt5 hb5
        have hgg2 : (Value.slice p m c).ownBlock = some g ∨ W5.heap.size < g := hgg.imp id (fun h => by first | exact h | (rw [HSz.out]; exact h))
        have LN := Lib.hid (HWO.out.pushE hown5 hgr hgg2 hb5 s1'.out s2'.out)
        have hle := HWO.out.le
        have x5 := HWO.out.o.belowB hb5 (by omega)
        obtain ⟨o0, o1, o2, o3, o4⟩ := x5.five
        obtain ⟨f0, f1, f2, f3, f4⟩ := x5.fiveF
        clear hown5 hgr hgg hgg2 hlt5 hb5 x5 HRow
        go_wp2_with fail
        go_roundw
        case rel => exact ⟨k + 1, _, _, _, by omega, by go_num, by rw [HNx.out]; exact LN.out⟩
        case measure => simp [intOf]; omega
    · obtain rfl : nE = k := by omega
      have hfE : List.take nE E = E := List.take_of_length_le (by rw [← HNE.out]; exact Nat.le_refl _)
      rw [hfE] at hwo
      have HWO1 := Lib.hid hwo
      have hle := hwo.le
      have q2 : wr.cell? ⟨w.heap.size, 2, none⟩ = some (.slice pW nW cW) := hwo.two.d.five.2.2.1
      clear hwo
      go_wp2_with fail
      go_loopw [9, 38] (fun _ i ws => ∃ (k : Nat) (p2 : Option Addr) (m2 c2 : Nat), k ≤ nW ∧ i = .int .i64 k ∧ WoI w ws ⟨z, E, L, fz, dn⟩ ⟨pE, nE, cE, pW, nW, cW⟩ (keptEn (nmEq nm) E) (keptWn (nmEq nm) (L.take k)) p m c p2 m2 c2) (fun _ i _ => nW - (intOf i).toNat)
      case atStart => exact ⟨0, none, 0, 0, by omega, rfl, HWO1.out⟩
      case round =>
        obtain ⟨k, p2, m2, c2, hk, rfl, hwo⟩ := hrel
        by_cases hlt : k < nW
        · have hkL : k < L.length := by rw [← HNW.out]; exact hlt
          have hW0 : WrsAt wr pW L := (HVv.out _ hwo.two.b).W
          obtain ⟨ga, oa, rfl, hga, d0, d1, d2, s1, s2⟩ := hW0 k hkL
          have hst := keptW_put (nmEq nm) L k hkL
          obtain ⟨x, hx⟩ : ∃ x, x = (L.getD k default).1 := ⟨_, rfl⟩
          obtain ⟨cc, hcc⟩ : ∃ y, y = (L.getD k default).2.1 := ⟨_, rfl⟩
          obtain ⟨y, hy⟩ : ∃ y, y = (L.getD k default).2.2 := ⟨_, rfl⟩
          rw [← hx] at d0 s1 hst; rw [← hcc] at d1 hst; rw [← hy] at d2 s2 hst
          obtain ⟨W5, hW5⟩ : ∃ W5, W5 = wr.alloc (.cells #[.string x, .int .i64 cc, .string y] 63) := ⟨_, rfl⟩
          have t5 : Below wr.heap.size wr W5 := by rw [hW5]; exact (Below.refl _ _).alloc (Nat.le_refl _) _
          have hwo5 := hwo.below t5
          have m0 : (0 : Int) ≤ (k : Int) := by omega
          have m1 : (k : Int) < (nW : Int) := by omega
          have hle := hwo.le
          have lw : w.heap.size < wr.heap.size := by omega
          have l2 : w.heap.size + 1 + 1 < wr.heap.size := by omega
          have ln : ¬ (wr.heap.size = w.heap.size + 1 + 1) := by omega
          have ln2 : ¬ (w.heap.size + 1 + 1 = wr.heap.size) := by omega
          obtain ⟨q0, q1, q2, q3, q4⟩ := hwo.two.d.five
          obtain ⟨o0, o1, o2, o3, o4⟩ := hwo.o.five
          obtain ⟨f0, f1, f2, f3, f4⟩ := hwo.o.fiveF
          simp only at q0 q1 q2 q3 q4
          have HST := Lib.hid hst; have HWO := Lib.hid hwo5; have HW5 := Lib.hid hW5
          have hmb : m2 ≤ 1000000 := by
            have h1 := hwo.rowW.1
            rw [wRow_length] at h1
            have h2 : (keptWn (nmEq nm) (L.take k)).length ≤ (L.take k).length := List.length_filter_le _ _
            rw [List.length_take] at h2
            omega
          have HSz : Hid (W5.heap.size = wr.heap.size + 1) := Lib.hid (by rw [hW5]; simp)
          have HMB := Lib.hid hmb
          have HRow : Hid ((wr.alloc (.cells #[.string x, .int .i64 cc, .string y] 63)).ownsRow (w.heap.size + 3) 63 3 (.slice p2 m2 c2) m2 (wRow (keptWn (nmEq nm) (L.take k)))) := Lib.hid (by rw [← hW5]; exact hwo5.rowW)
          have HS3 : Hid (w.heap.size + 3 ≤ (wr.alloc (.cells #[.string x, .int .i64 cc, .string y] 63)).heap.size) := Lib.hid (by simp; omega)
          have HSx : Hid ((wr.alloc (.cells #[.string x, .int .i64 cc, .string y] 63)).heap.size = wr.heap.size + 1) := Lib.hid (by simp)
          by_cases he : x = nm
          · have t1 : (x.toList == nm.toList) = true := by rw [he]; simp
            have HNx : Hid (keptWn (nmEq nm) (L.take (k + 1)) = keptWn (nmEq nm) (L.take k)) := Lib.hid (by rw [HST.out, if_pos (nmEq_iff.2 he)])
            clear he hst hx hy hcc hwo hwo5 t5 hW5 hkL hmb hW0 HRow
            go_wp2_with fail
            rw [← HW5.out]
            go_roundw
            case rel => exact ⟨k + 1, p2, m2, c2, by omega, by go_num, by rw [HNx.out]; exact HWO.out⟩
            case measure => simp [intOf]; omega
          · have t1 : (x.toList == nm.toList) = false := by rw [beq_eq_false_iff_ne]; exact fun h => he (toList_inj h)
            have HNx : Hid (keptWn (nmEq nm) (L.take (k + 1)) = keptWn (nmEq nm) (L.take k) ++ [(x, cc, y)]) := Lib.hid (by
              rw [HST.out, if_neg (fun h => he (nmEq_iff.1 h))])
            have s1' := Lib.hid s1; have s2' := Lib.hid s2
            clear he hst hx hy hcc hwo hwo5 t5 hW5 hkL hmb hW0 s1 s2
            go_wp2_with (at_builtin; refine Rw.push rfl _ _ 23 rfl (w.heap.size + 3) 63 i1 (.agg #[.string ⟨#[]⟩, .int .i64 0, .string ⟨#[]⟩]) 3 40 Try.underlying23 hi1 hy0 hy1 hy2 rfl (by decide) (.slice p2 m2 c2) m2 (wRow (keptWn (nmEq nm) (L.take k))) rfl HRow.out [.string x, .int .i64 cc, .string y] (by rw [HSx.out]; rfl) rfl rfl (by have := HMB.out; omega) (by decide) HS3.out ?_)
            rw [← HW5.out]
            intro g cap w5 hown5 hgr hgg hlt5 hb5
            have hgg2 : (Value.slice p2 m2 c2).ownBlock = some g ∨ W5.heap.size < g := hgg.imp id (fun h => by first | exact h | (rw [HSz.out]; exact h))
            have LN := Lib.hid (HWO.out.pushW hown5 hgr hgg2 hb5 s1'.out s2'.out)
            have hle := HWO.out.le
            have x5 := HWO.out.o.belowB hb5 (by omega)
            obtain ⟨o0, o1, o2, o3, o4⟩ := x5.five
            obtain ⟨f0, f1, f2, f3, f4⟩ := x5.fiveF
            clear hown5 hgr hgg hgg2 hlt5 hb5 x5 HRow
            go_wp2_with fail
            go_roundw
            case rel => exact ⟨k + 1, _, _, _, by omega, by go_num, by rw [HNx.out]; exact LN.out⟩
            case measure => simp [intOf]; omega
        · obtain rfl : nW = k := by omega
          have hfL : List.take nW L = L := List.take_of_length_le (by rw [← HNW.out]; exact Nat.le_refl _)
          rw [hfL] at hwo
          have hle := hwo.le
          have HFin : Hid (∀ W, Bar wr W (fun k => k = w.heap.size ∨ k = w.heap.size + 1) → CpP w (woD ⟨z, E, L, fz, dn⟩ nm) (.returned (.agg #[.int .i64 z, .slice p m c, .slice p2 m2 c2, .int .i64 fz, .bool dn])) W) := Lib.hid (fun W hb => by
            have e1 := hwo.rowE.1
            rw [eRow_length] at e1
            have e2 := hwo.rowW.1
            rw [wRow_length] at e2
            have l1 : (keptEn (nmEq nm) E).length ≤ E.length := List.length_filter_le _ _
            have l2 : (keptWn (nmEq nm) L).length ≤ L.length := List.length_filter_le _ _
            have hw2 := hwo.rowE
            refine ⟨⟨p, m, c, p2, m2, c2⟩, rfl, ⟨by show m = (keptEn (nmEq nm) E).length; omega, own_base (own_bar hwo.rowE hb (fun k e hk => ?_)) (by omega), by show m2 = (keptWn (nmEq nm) L).length; omega, own_base (own_bar hwo.rowW hb (fun k e hk => ?_)) (by omega), hwo.okE, hwo.okW, ⟨Nat.le_trans l1 HLF.out.e, Nat.le_trans l2 HLF.out.w, HLF.out.f⟩, hwo.ap⟩, hwo.two.b.trans (hb.below (B := w.heap.size) (fun k _ hk => by omega) hwo.two.b.size)⟩
            · obtain ⟨b, hb2, hbk⟩ := blk_of e
              have := (own_aboveV hwo.rowE b hb2).1
              omega
            · obtain ⟨b, hb2, hbk⟩ := blk_of e
              have := (own_aboveV hwo.rowW b hb2).1
              omega)
          have t : decide (nW < nW) = false := decide_eq_false (by omega)
          obtain ⟨p0, p1, p2', p3, p4⟩ := hwo.o.five
          obtain ⟨r0, r1, r2, r3, r4⟩ := hwo.two.r.five
          obtain ⟨k0, k1, k2, k3, k4⟩ := hwo.two.r.fiveF
          simp only at p0 p1 p2' p3 p4
          clear hwo
          go_wp2_with fail
          (try simp only [Exit.inBlock, Exit.then])
          refine bodyPost_ret (v := .agg #[.int .i64 z, .slice p m c, .slice p2 m2 c2, .int .i64 fz, .bool dn]) ?_ rfl ?_
          · simp only [results, Try.results40]
            go_simp
          · refine HFin.out _ ?_
            repeat (first | refine Bar.setCell ?_ (by first | exact Or.inl rfl | exact Or.inr rfl) _ | exact Bar.refl _ _)
end Go.Proofs.Ytejmbbhbimgheaa.Dk
namespace Go.Proofs.Ytejmbbhbimgheaa.Dk
open Go.RowKit Go.Op Rw

theorem Two.setE {w W : World} {D : Dsk} {v : DVal} (h : Two w W D v) (E' : List Ext) (p : Option Addr) (m c : Nat) : Two w (W.setCell ⟨w.heap.size, 1, none⟩ (.slice p m c)) ⟨D.size, E', D.W, D.fuse, D.down⟩ ⟨p, m, c, v.pW, v.nW, v.cW⟩ := by
  have hbar : Bar W (W.setCell ⟨w.heap.size, 1, none⟩ (.slice p m c)) (fun k => k = w.heap.size) := (Bar.refl _ (fun k => k = w.heap.size)).setCell (q := ⟨w.heap.size, 1, none⟩) rfl _
  exact ⟨h.d.set (i := 1) (by simp) _, h.r.bar hbar (by omega), h.b.trans (hbar.below (fun k _ e => by omega) h.b.size)⟩
set_option maxHeartbeats 16000000 in
set_option maxRecDepth 100000 in
theorem rNew_any (D : Dsk) (v : DVal) (nm : ByteArray) (s : Int) (w : World) (h : VarAt w D v) (hc : v.nE ≤ v.cE) (hf : Few D) (h1 : nm.size ≤ 140737488355328) :
    Calls Try.prog 7 #[.agg #[.int .i64 D.size, .slice v.pE v.nE v.cE, .slice v.pW v.nW v.cW, .int .i64 D.fuse, .bool D.down], .string nm, .int .i64 s] w (AnsP w (nwD D nm s) (nwE D nm s)) := by
  obtain ⟨W2, hW2⟩ : ∃ W2, W2 = ((w.alloc (.cells #[.int .i64 D.size, .slice v.pE v.nE v.cE, .slice v.pW v.nW v.cW, .int .i64 D.fuse, .bool D.down] 25)).alloc (.cells #[.int .i64 0, .slice none 0 0, .slice none 0 0, .int .i64 0, .bool false] 25)) := ⟨_, rfl⟩
  have tw := Two.new w D v
  rw [← hW2] at tw
  have hv := h.below tw.b
  have HW2 := Lib.hid hW2; have HV := Lib.hid hv
  obtain ⟨r, hr⟩ : ∃ r, r = rdy D := ⟨_, rfl⟩
  have HPw : Hid (∀ W, Below W2.heap.size W2 W → Calls Try.prog 31 #[.agg #[.int .i64 D.size, .slice v.pE v.nE v.cE, .slice v.pW v.nW v.cW, .int .i64 D.fuse, .bool D.down]] W fun e w' => e = .returned (.int .i64 r) ∧ Below W.heap.size W w') := Lib.hid (fun W hb => by rw [hr]; exact rpower_any D v W (hv.below hb) hc)
  have HCp : Hid (∀ W, Below W2.heap.size W2 W → Calls Try.prog 5 #[.agg #[.int .i64 D.size, .slice v.pE v.nE v.cE, .slice v.pW v.nW v.cW, .int .i64 D.fuse, .bool D.down]] W (CpP W D)) := Lib.hid (fun W hb => rCopy_any D v W (hv.below hb) hf)
  have HAs : Hid (∀ why W, Below W2.heap.size W2 W → Calls Try.prog 32 #[.agg #[.int .i64 D.size, .slice v.pE v.nE v.cE, .slice v.pW v.nW v.cW, .int .i64 D.fuse, .bool D.down], .int .i64 why] W (AnsP W (asD D why) why)) := Lib.hid (fun why W hb => ras_any D v why W (hv.below hb) hc hf)
  have TW := Lib.hid tw; have HR := Lib.hid hr
  obtain ⟨q0, q1, q2, q3, q4⟩ := tw.d.five
  have HLf := h.lim.f
  clear h hc hf tw hv hW2 hr
  by_cases h0 : r = 0
  case neg =>
    have t0 : (r != 0) = true := by rw [bne_iff_ne]; exact h0
    have F : Hid (asD D r = nwD D nm s ∧ r = nwE D nm s) := Lib.hid (by
      rw [HR.out] at h0 ⊢
      exact as_rdy h0 _ _)
    clear h0 HCp
    go_enter Try.func7, Try.ntmps7
    go_wp2_with fail
    rw [← HW2.out]
    refine (HPw.out _ (Below.refl _ _)).mono ?_
    rintro e w1 ⟨rfl, b1⟩
    have TW1 := Lib.hid (TW.out.below b1)
    obtain ⟨q0, q1, q2, q3, q4⟩ := TW1.out.d.five
    have HBC := Lib.hid b1
    clear b1
    go_wp2_with fail
    refine (HAs.out r _ HBC.out).mono ?_
    rintro e w3 ⟨v', rfl, hvar, habv, b3⟩
    have tw3 := TW1.out.below b3
    have hlt := TW1.out.lt
    have HFin : Hid (∀ W, Bar w3 W (fun k => k = w.heap.size ∨ k = w.heap.size + 1) → AnsP w (nwD D nm s) (nwE D nm s) (.returned (.tuple #[.agg #[.int .i64 (asD D r).size, .slice v'.pE v'.nE v'.cE, .slice v'.pW v'.nW v'.cW, .int .i64 (asD D r).fuse, .bool (asD D r).down], .int .i64 r])) W) := Lib.hid (fun W hb => by rw [← F.out.1]; exact ans_var hvar habv hlt hb (TW1.out.b.trans (b3.mono TW1.out.b.size)) F.out.2)
    obtain ⟨p0, p1, p2, p3, p4⟩ := tw3.r.five
    obtain ⟨f0, f1, f2, f3, f4⟩ := tw3.r.fiveF
    clear hvar habv b3 tw3 hlt
    go_wp2_with fail
    (try simp only [Exit.inBlock, Exit.then])
    refine bodyPost_ret (v := .tuple #[.agg #[.int .i64 (asD D r).size, .slice v'.pE v'.nE v'.cE, .slice v'.pW v'.nW v'.cW, .int .i64 (asD D r).fuse, .bool (asD D r).down], .int .i64 r]) ?_ rfl ?_
    · rw [results_cell_tmp rfl]
      go_simp
    · refine HFin.out _ ?_
      repeat (first | refine Bar.setCell ?_ (by first | exact Or.inl rfl | exact Or.inr rfl) _ | exact Bar.refl _ _)
  subst h0
  have hy : rdy D = 0 := HR.out.symm
  have eD : nwD D nm s = adD D.size D.E D.W D.fuse D.down nm s := by unfold nwD; rw [chg_ok hy]
  have eE : nwE D nm s = adE D.size D.E nm s := chgR_ok hy
  rw [eD, eE]
  have hg := chk_good (ready_good hy).1
  have hso : Sorted D.E := (lim_rdy hy).1
  have hlE : D.E.length ≤ 1000000 := (lim_rdy hy).2.1
  have hs := exR_sum hg.1 hg.2.2.2.1
  have hz0 := hg.1
  have hz1 := hg.2.1
  clear eD eE hg
  by_cases c1 : named nm = true
  case neg =>
    have HNm : Hid (∀ W, Calls Try.prog 33 #[.string nm] W fun e w' => e = .returned (.bool false) ∧ W = w') := Lib.hid (fun W => by have := rNamed_any nm W h1; rw [Bool.eq_false_iff.2 c1] at this; exact this)
    have F : Hid (asD D 1 = adD D.size D.E D.W D.fuse D.down nm s ∧ (1 : Int) = adE D.size D.E nm s) := Lib.hid (by
      have e : adE D.size D.E nm s = 1 := by unfold adE; rw [Bool.eq_false_iff.2 c1]; rfl
      rw [as_no hy]
      unfold adD
      rw [e, if_neg (by decide)]
      exact ⟨rfl, rfl⟩)
    clear c1 hy hso hlE hs hz0 hz1 HCp
    go_enter Try.func7, Try.ntmps7
    go_wp2_with fail
    rw [← HW2.out]
    refine (HPw.out _ (Below.refl _ _)).mono ?_
    rintro e w1 ⟨rfl, b1⟩
    have TW1 := Lib.hid (TW.out.below b1)
    have HBC := Lib.hid b1
    obtain ⟨q0, q1, q2, q3, q4⟩ := TW1.out.d.five
    clear b1
    go_wp2_with fail
    refine (HNm.out _).mono ?_
    rintro e w1x ⟨rfl, rfl⟩
    go_wp2_with fail
    refine (HAs.out 1 _ HBC.out).mono ?_
    rintro e w3 ⟨v', rfl, hvar, habv, b3⟩
    have tw3 := TW1.out.below b3
    have hlt := TW1.out.lt
    have HFin : Hid (∀ W, Bar w3 W (fun k => k = w.heap.size ∨ k = w.heap.size + 1) → AnsP w (adD D.size D.E D.W D.fuse D.down nm s) (adE D.size D.E nm s) (.returned (.tuple #[.agg #[.int .i64 (asD D 1).size, .slice v'.pE v'.nE v'.cE, .slice v'.pW v'.nW v'.cW, .int .i64 (asD D 1).fuse, .bool (asD D 1).down], .int .i64 1])) W) := Lib.hid (fun W hb => by rw [← F.out.1]; exact ans_var hvar habv hlt hb (TW1.out.b.trans (b3.mono TW1.out.b.size)) F.out.2)
    obtain ⟨p0, p1, p2, p3, p4⟩ := tw3.r.five
    obtain ⟨f0, f1, f2, f3, f4⟩ := tw3.r.fiveF
    clear hvar habv b3 tw3 hlt
    go_wp2_with fail
    (try simp only [Exit.inBlock, Exit.then])
    refine bodyPost_ret (v := .tuple #[.agg #[.int .i64 (asD D 1).size, .slice v'.pE v'.nE v'.cE, .slice v'.pW v'.nW v'.cW, .int .i64 (asD D 1).fuse, .bool (asD D 1).down], .int .i64 1]) ?_ rfl ?_
    · rw [results_cell_tmp rfl]
      go_simp
    · refine HFin.out _ ?_
      repeat (first | refine Bar.setCell ?_ (by first | exact Or.inl rfl | exact Or.inr rfl) _ | exact Bar.refl _ _)
  have HNm : Hid (∀ W, Calls Try.prog 33 #[.string nm] W fun e w' => e = .returned (.bool true) ∧ W = w') := Lib.hid (fun W => by have := rNamed_any nm W h1; rw [c1] at this; exact this)
  by_cases c2 : 1 ≤ s
  case neg =>
    have t2 : decide (s < 1) = true := decide_eq_true (by omega)
    have F : Hid (asD D 1 = adD D.size D.E D.W D.fuse D.down nm s ∧ (1 : Int) = adE D.size D.E nm s) := Lib.hid (by
      have e : adE D.size D.E nm s = 1 := by unfold adE; rw [c1, decide_eq_false c2]; rfl
      rw [as_no hy]
      unfold adD
      rw [e, if_neg (by decide)]
      exact ⟨rfl, rfl⟩)
    clear c1 c2 hy hso hlE hs hz0 hz1 HCp
    go_enter Try.func7, Try.ntmps7
    go_wp2_with fail
    rw [← HW2.out]
    refine (HPw.out _ (Below.refl _ _)).mono ?_
    rintro e w1 ⟨rfl, b1⟩
    have TW1 := Lib.hid (TW.out.below b1)
    have HBC := Lib.hid b1
    obtain ⟨q0, q1, q2, q3, q4⟩ := TW1.out.d.five
    clear b1
    go_wp2_with fail
    refine (HNm.out _).mono ?_
    rintro e w1x ⟨rfl, rfl⟩
    go_wp2_with fail
    refine (HAs.out 1 _ HBC.out).mono ?_
    rintro e w3 ⟨v', rfl, hvar, habv, b3⟩
    have tw3 := TW1.out.below b3
    have hlt := TW1.out.lt
    have HFin : Hid (∀ W, Bar w3 W (fun k => k = w.heap.size ∨ k = w.heap.size + 1) → AnsP w (adD D.size D.E D.W D.fuse D.down nm s) (adE D.size D.E nm s) (.returned (.tuple #[.agg #[.int .i64 (asD D 1).size, .slice v'.pE v'.nE v'.cE, .slice v'.pW v'.nW v'.cW, .int .i64 (asD D 1).fuse, .bool (asD D 1).down], .int .i64 1])) W) := Lib.hid (fun W hb => by rw [← F.out.1]; exact ans_var hvar habv hlt hb (TW1.out.b.trans (b3.mono TW1.out.b.size)) F.out.2)
    obtain ⟨p0, p1, p2, p3, p4⟩ := tw3.r.five
    obtain ⟨f0, f1, f2, f3, f4⟩ := tw3.r.fiveF
    clear hvar habv b3 tw3 hlt
    go_wp2_with fail
    (try simp only [Exit.inBlock, Exit.then])
    refine bodyPost_ret (v := .tuple #[.agg #[.int .i64 (asD D 1).size, .slice v'.pE v'.nE v'.cE, .slice v'.pW v'.nW v'.cW, .int .i64 (asD D 1).fuse, .bool (asD D 1).down], .int .i64 1]) ?_ rfl ?_
    · rw [results_cell_tmp rfl]
      go_simp
    · refine HFin.out _ ?_
      repeat (first | refine Bar.setCell ?_ (by first | exact Or.inl rfl | exact Or.inr rfl) _ | exact Bar.refl _ _)
  have t2 : decide (s < 1) = false := decide_eq_false (by omega)
  have hae : adE D.size D.E nm s = if isAt D.E nm = true then 4 else if D.size - sumN D.E < s then 8 else 0 := by unfold adE; rw [c1, decide_eq_true c2]; rfl
  have hfp := fnd_pos hso nm
  obtain ⟨p, hp⟩ : ∃ p, p = fnd D.E nm := ⟨_, rfl⟩
  have HFi : Hid (∀ W, Below W2.heap.size W2 W → Calls Try.prog 34 #[.slice v.pE v.nE v.cE, .string nm] W fun e w' => e = .returned (.int .i64 p) ∧ Below W.heap.size W w') := Lib.hid (fun W hb => by rw [hp]; exact rFind_any D.E v.pE v.nE v.cE nm W HV.out.hE (HV.out.below hb).E HV.out.l1)
  rw [← hp] at hfp
  clear hp
  by_cases c3 : isAt D.E nm = true
  case pos =>
    have t3 : decide (0 ≤ p) = true := decide_eq_true (by rw [hfp, if_pos c3]; omega)
    have F : Hid (asD D 4 = adD D.size D.E D.W D.fuse D.down nm s ∧ (4 : Int) = adE D.size D.E nm s) := Lib.hid (by
      have e : adE D.size D.E nm s = 4 := by rw [hae, if_pos c3]
      rw [as_no hy]
      unfold adD
      rw [e, if_neg (by decide)]
      exact ⟨rfl, rfl⟩)
    clear c1 c2 c3 hy hso hlE hs hz0 hz1 HCp hae hfp
    go_enter Try.func7, Try.ntmps7
    go_wp2_with fail
    rw [← HW2.out]
    refine (HPw.out _ (Below.refl _ _)).mono ?_
    rintro e w1 ⟨rfl, b1⟩
    have TW1 := Lib.hid (TW.out.below b1)
    have HBC := Lib.hid b1
    obtain ⟨q0, q1, q2, q3, q4⟩ := TW1.out.d.five
    clear b1
    go_wp2_with fail
    refine (HNm.out _).mono ?_
    rintro e w1x ⟨rfl, rfl⟩
    go_wp2_with fail
    refine (HFi.out _ HBC.out).mono ?_
    rintro e w2 ⟨rfl, b2⟩
    have TW2 := Lib.hid (TW1.out.below b2)
    have HBC2 := Lib.hid (HBC.out.trans (b2.mono HBC.out.size))
    obtain ⟨q0, q1, q2, q3, q4⟩ := TW2.out.d.five
    clear b2
    go_wp2_with fail
    have HBC := Lib.hid HBC2.out
    refine (HAs.out 4 _ HBC.out).mono ?_
    rintro e w3 ⟨v', rfl, hvar, habv, b3⟩
    have tw3 := TW2.out.below b3
    have hlt := TW2.out.lt
    have HFin : Hid (∀ W, Bar w3 W (fun k => k = w.heap.size ∨ k = w.heap.size + 1) → AnsP w (adD D.size D.E D.W D.fuse D.down nm s) (adE D.size D.E nm s) (.returned (.tuple #[.agg #[.int .i64 (asD D 4).size, .slice v'.pE v'.nE v'.cE, .slice v'.pW v'.nW v'.cW, .int .i64 (asD D 4).fuse, .bool (asD D 4).down], .int .i64 4])) W) := Lib.hid (fun W hb => by rw [← F.out.1]; exact ans_var hvar habv hlt hb (TW2.out.b.trans (b3.mono TW2.out.b.size)) F.out.2)
    obtain ⟨p0, p1, p2, p3, p4⟩ := tw3.r.five
    obtain ⟨f0, f1, f2, f3, f4⟩ := tw3.r.fiveF
    clear hvar habv b3 tw3 hlt
    go_wp2_with fail
    (try simp only [Exit.inBlock, Exit.then])
    refine bodyPost_ret (v := .tuple #[.agg #[.int .i64 (asD D 4).size, .slice v'.pE v'.nE v'.cE, .slice v'.pW v'.nW v'.cW, .int .i64 (asD D 4).fuse, .bool (asD D 4).down], .int .i64 4]) ?_ rfl ?_
    · rw [results_cell_tmp rfl]
      go_simp
    · refine HFin.out _ ?_
      repeat (first | refine Bar.setCell ?_ (by first | exact Or.inl rfl | exact Or.inr rfl) _ | exact Bar.refl _ _)
  have t3 : decide (0 ≤ p) = false := decide_eq_false (by rw [hfp, if_neg c3]; omega)
  rw [if_neg c3] at hae
  obtain ⟨sm, hsm⟩ : ∃ sm, sm = sumN D.E := ⟨_, rfl⟩
  have HUs : Hid (∀ W, Below W2.heap.size W2 W → Calls Try.prog 35 #[.slice v.pE v.nE v.cE] W fun e w' => e = .returned (.int .i64 (sm : Int)) ∧ Below W.heap.size W w') := Lib.hid (fun W hb => by
    rw [hsm]
    exact rUsed_any D.E v.pE v.nE v.cE W HV.out.hE (HV.out.below hb).E HV.out.l1 (by omega))
  rw [← hsm] at hs hae
  have w9 : IntKind.i64.wrap (D.size - (sm : Int)) = D.size - (sm : Int) := IntWalk.i64_in _ (by omega)
  clear hsm hfp
  by_cases c4 : D.size - (sm : Int) < s
  case pos =>
    have t4 : decide (D.size - (sm : Int) < s) = true := decide_eq_true c4
    have F : Hid (asD D 8 = adD D.size D.E D.W D.fuse D.down nm s ∧ (8 : Int) = adE D.size D.E nm s) := Lib.hid (by
      have e : adE D.size D.E nm s = 8 := by rw [hae, if_pos c4]
      rw [as_no hy]
      unfold adD
      rw [e, if_neg (by decide)]
      exact ⟨rfl, rfl⟩)
    clear c1 c2 c3 c4 hy hso hlE hs hz0 hz1 HCp hae
    go_enter Try.func7, Try.ntmps7
    go_wp2_with fail
    rw [← HW2.out]
    refine (HPw.out _ (Below.refl _ _)).mono ?_
    rintro e w1 ⟨rfl, b1⟩
    have TW1 := Lib.hid (TW.out.below b1)
    have HBC := Lib.hid b1
    obtain ⟨q0, q1, q2, q3, q4⟩ := TW1.out.d.five
    clear b1
    go_wp2_with fail
    refine (HNm.out _).mono ?_
    rintro e w1x ⟨rfl, rfl⟩
    go_wp2_with fail
    refine (HFi.out _ HBC.out).mono ?_
    rintro e w2 ⟨rfl, b2⟩
    have TW2 := Lib.hid (TW1.out.below b2)
    have HBC2 := Lib.hid (HBC.out.trans (b2.mono HBC.out.size))
    obtain ⟨q0, q1, q2, q3, q4⟩ := TW2.out.d.five
    clear b2
    go_wp2_with fail
    obtain ⟨BBp, hBBp⟩ : ∃ BBp : World → Prop, BBp = fun W => Below W2.heap.size W2 W := ⟨_, rfl⟩
    have hK : ∀ W, BBp W → BBp W ∧ W.cell? ⟨w.heap.size, 0, none⟩ = some (.int .i64 D.size) ∧ W.cell? ⟨w.heap.size, 1, none⟩ = some (.slice v.pE v.nE v.cE) := fun W hh => by
      refine ⟨hh, ?_⟩
      rw [hBBp] at hh
      have h1 := (TW.out.below hh).d.five
      exact ⟨h1.1, h1.2.1⟩
    have hL : ∀ W W' : World, BBp W → Below W.heap.size W W' → BBp W' := by
      intro W W' hh hb
      rw [hBBp] at hh ⊢
      exact hh.trans (hb.mono hh.size)
    have hD : ∀ W, BBp W → BBp W.drew := fun W hh => hL W _ hh (Below.drew (Below.refl _ W))
    have hEx : ∀ W, BBp W → Below W2.heap.size W2 W := fun W hh => by rw [hBBp] at hh; exact hh
    have h0 : BBp w2 := by rw [hBBp]; exact HBC2.out
    have HK := Lib.hid hK; have HL := Lib.hid hL; have HDd := Lib.hid hD; have HEx := Lib.hid hEx; have H0 := Lib.hid h0
    clear hBBp hK hL hD hEx h0 q0 q1 q2 q3 q4
    go_region_held3 (fun W => BBp W ∧ W.cell? ⟨w.heap.size, 0, none⟩ = some (.int .i64 D.size) ∧ W.cell? ⟨w.heap.size, 1, none⟩ = some (.slice v.pE v.nE v.cE)) ((refine HK.out _ ?_; repeat (first | exact H0.out | assumption | apply HDd.out))) ((go_at_call 35; ((with_reducible refine (HUs.out _ (HEx.out _ (by repeat (first | exact H0.out | assumption | apply HDd.out)))).mono ?_)); rintro e w' ⟨rfl, hb⟩; have hw := HL.out _ _ (by repeat (first | exact H0.out | assumption | apply HDd.out)) hb; clear hb))
    have HBC := Lib.hid (HEx.out _ hw)
    have TW3 := Lib.hid (TW.out.below HBC.out)
    obtain ⟨q0, q1, q2, q3, q4⟩ := TW3.out.d.five
    clear hw HK HL HDd HEx H0
    go_wp2_with fail
    refine (HAs.out 8 _ HBC.out).mono ?_
    rintro e w3 ⟨v', rfl, hvar, habv, b3⟩
    have tw3 := TW3.out.below b3
    have hlt := TW3.out.lt
    have HFin : Hid (∀ W, Bar w3 W (fun k => k = w.heap.size ∨ k = w.heap.size + 1) → AnsP w (adD D.size D.E D.W D.fuse D.down nm s) (adE D.size D.E nm s) (.returned (.tuple #[.agg #[.int .i64 (asD D 8).size, .slice v'.pE v'.nE v'.cE, .slice v'.pW v'.nW v'.cW, .int .i64 (asD D 8).fuse, .bool (asD D 8).down], .int .i64 8])) W) := Lib.hid (fun W hb => by rw [← F.out.1]; exact ans_var hvar habv hlt hb (TW3.out.b.trans (b3.mono TW3.out.b.size)) F.out.2)
    obtain ⟨p0, p1, p2, p3, p4⟩ := tw3.r.five
    obtain ⟨f0, f1, f2, f3, f4⟩ := tw3.r.fiveF
    clear hvar habv b3 tw3 hlt
    go_wp2_with fail
    (try simp only [Exit.inBlock, Exit.then])
    refine bodyPost_ret (v := .tuple #[.agg #[.int .i64 (asD D 8).size, .slice v'.pE v'.nE v'.cE, .slice v'.pW v'.nW v'.cW, .int .i64 (asD D 8).fuse, .bool (asD D 8).down], .int .i64 8]) ?_ rfl ?_
    · rw [results_cell_tmp rfl]
      go_simp
    · refine HFin.out _ ?_
      repeat (first | refine Bar.setCell ?_ (by first | exact Or.inl rfl | exact Or.inr rfl) _ | exact Bar.refl _ _)
  have t4 : decide (D.size - (sm : Int) < s) = false := decide_eq_false c4
  rw [if_neg c4] at hae
  obtain ⟨n, rfl⟩ : ∃ n : Nat, s = (n : Int) := ⟨s.toNat, by omega⟩
  have hn : n ≤ 16384 := by omega
  have HD : Hid (adD D.size D.E D.W D.fuse D.down nm (n : Int) = ⟨D.size, insE D.E (pos D.E nm) nm (zer (n * 64)), D.W, D.fuse, D.down⟩ ∧ (0 : Int) = adE D.size D.E nm (n : Int)) := Lib.hid ⟨by unfold adD; rw [if_pos hae]; rfl, hae.symm⟩
  have HZr : Hid (∀ W, Calls Try.prog 37 #[.int .i64 (n : Int)] W fun e w' => e = .returned (.string (zer (n * 64))) ∧ Below W.heap.size W w') := Lib.hid (fun W => Zeros_any n W hn)
  have HSi : Hid (nm.size ≤ 140737488355328 ∧ (zer (n * 64)).size ≤ 140737488355328 ∧ D.E.length ≤ 1000000) := Lib.hid ⟨h1, by rw [zer_size]; omega, hlE⟩
  clear c1 c2 c3 c4 hy hso hlE hs hz0 hz1 hae HAs hn
  go_enter Try.func7, Try.ntmps7
  go_wp2_with fail
  rw [← HW2.out]
  refine (HPw.out _ (Below.refl _ _)).mono ?_
  rintro e w1 ⟨rfl, b1⟩
  have TW1 := Lib.hid (TW.out.below b1)
  have HBC := Lib.hid b1
  obtain ⟨q0, q1, q2, q3, q4⟩ := TW1.out.d.five
  clear b1
  go_wp2_with fail
  refine (HNm.out _).mono ?_
  rintro e w1x ⟨rfl, rfl⟩
  go_wp2_with fail
  refine (HFi.out _ HBC.out).mono ?_
  rintro e w2 ⟨rfl, b2⟩
  have TW2 := Lib.hid (TW1.out.below b2)
  have HBC2 := Lib.hid (HBC.out.trans (b2.mono HBC.out.size))
  obtain ⟨q0, q1, q2, q3, q4⟩ := TW2.out.d.five
  clear b2
  go_wp2_with fail
  obtain ⟨BBp, hBBp⟩ : ∃ BBp : World → Prop, BBp = fun W => Below W2.heap.size W2 W := ⟨_, rfl⟩
  have hK : ∀ W, BBp W → BBp W ∧ W.cell? ⟨w.heap.size, 0, none⟩ = some (.int .i64 D.size) ∧ W.cell? ⟨w.heap.size, 1, none⟩ = some (.slice v.pE v.nE v.cE) := fun W hh => by
    refine ⟨hh, ?_⟩
    rw [hBBp] at hh
    have h1 := (TW.out.below hh).d.five
    exact ⟨h1.1, h1.2.1⟩
  have hL : ∀ W W' : World, BBp W → Below W.heap.size W W' → BBp W' := by
    intro W W' hh hb
    rw [hBBp] at hh ⊢
    exact hh.trans (hb.mono hh.size)
  have hD : ∀ W, BBp W → BBp W.drew := fun W hh => hL W _ hh (Below.drew (Below.refl _ W))
  have hEx : ∀ W, BBp W → Below W2.heap.size W2 W := fun W hh => by rw [hBBp] at hh; exact hh
  have h0 : BBp w2 := by rw [hBBp]; exact HBC2.out
  have HK := Lib.hid hK; have HL := Lib.hid hL; have HDd := Lib.hid hD; have HEx := Lib.hid hEx; have H0 := Lib.hid h0
  clear hBBp hK hL hD hEx h0 q0 q1 q2 q3 q4
  go_region_held3 (fun W => BBp W ∧ W.cell? ⟨w.heap.size, 0, none⟩ = some (.int .i64 D.size) ∧ W.cell? ⟨w.heap.size, 1, none⟩ = some (.slice v.pE v.nE v.cE)) ((refine HK.out _ ?_; repeat (first | exact H0.out | assumption | apply HDd.out))) ((go_at_call 35; ((with_reducible refine (HUs.out _ (HEx.out _ (by repeat (first | exact H0.out | assumption | apply HDd.out)))).mono ?_)); rintro e w' ⟨rfl, hb⟩; have hw := HL.out _ _ (by repeat (first | exact H0.out | assumption | apply HDd.out)) hb; clear hb))
  have HBC := Lib.hid (HEx.out _ hw)
  have TW3 := Lib.hid (TW.out.below HBC.out)
  obtain ⟨q0, q1, q2, q3, q4⟩ := TW3.out.d.five
  clear hw HK HL HDd HEx H0
  go_wp2_with fail
  refine (HCp.out _ HBC.out).mono ?_
  rintro e w3 ⟨v', rfl, hown, b3⟩
  have tw3 := TW3.out.below b3
  obtain ⟨p0, p1, p2, p3, p4⟩ := tw3.d.five
  obtain ⟨f0, f1, f2, f3, f4⟩ := tw3.d.fiveF
  have hlt1 := TW3.out.lt
  obtain ⟨S, hS⟩ : ∃ S, S = (((((w3.setCell ⟨w.heap.size, 0, none⟩ (.int .i64 D.size)).setCell ⟨w.heap.size, 1, none⟩ (.slice v'.pE v'.nE v'.cE)).setCell ⟨w.heap.size, 2, none⟩ (.slice v'.pW v'.nW v'.cW)).setCell ⟨w.heap.size, 3, none⟩ (.int .i64 D.fuse)).setCell ⟨w.heap.size, 4, none⟩ (.bool D.down)) := ⟨_, rfl⟩
  have ts : Two w S D v' := by rw [hS]; exact tw3.setD
  have hos : OwnD S w'.heap.size D v' := by
    rw [hS]
    refine hown.bar (bar_setD _ _ _ _ _ (fun k => k = w.heap.size) rfl) (fun a e hk => ?_)
    rcases e with e | e
    · have := hown.above.1 a e; omega
    · have := hown.above.2 a e; omega
  have hSz : S.heap.size = w3.heap.size := by rw [hS]; simp
  have hbS : w'.heap.size ≤ S.heap.size := by rw [hSz]; exact b3.size
  have HS := Lib.hid hS; have TS := Lib.hid ts; have OS := Lib.hid hos; have HT1 := Lib.hid hlt1; have HBS := Lib.hid hbS
  clear hS ts hos hSz hbS hown b3 tw3 hlt1
  go_wp2_with fail
  rw [← HS.out]
  clear HS p0 p1 p2 p3 p4 f0 f1 f2 f3 f4 q0 q1 q2 q3 q4
  obtain ⟨BBs, hBBs⟩ : ∃ BBp : World → Prop, BBp = fun W => Below S.heap.size S W := ⟨_, rfl⟩
  have hKs : ∀ W, BBs W → W.cell? ⟨w.heap.size, 1, none⟩ = some (.slice v'.pE v'.nE v'.cE) := fun W hh => by
    rw [hBBs] at hh
    exact (TS.out.below hh).d.five.2.1
  have hLs : ∀ W W' : World, BBs W → Below W.heap.size W W' → BBs W' := by
    intro W W' hh hb
    rw [hBBs] at hh ⊢
    exact hh.trans (hb.mono hh.size)
  have hDs : ∀ W, BBs W → BBs W.drew := fun W hh => hLs W _ hh (Below.drew (Below.refl _ W))
  have h0s : BBs S := by rw [hBBs]; exact Below.refl _ _
  have hWi : ∀ W, BBs W → Calls Try.prog 36 #[.slice v'.pE v'.nE v'.cE, .agg #[.string nm, .string (zer (n * 64))]] W (WtP W D.E nm (zer (n * 64))) := fun W hh => by
    rw [hBBs] at hh
    have ho := OS.out.below hh
    exact rwith_any D.E v'.pE v'.nE v'.cE w'.heap.size nm _ W ho.hE ho.E ho.okE (by rw [ho.hE]; exact HSi.out.2.2)
  have hEnd : ∀ W w6 g cap, BBs W → w6.ownsRow (W.heap.size + 1) 58 2 (.slice (some ⟨g, 0, none⟩) (D.E.length + 1) cap) (D.E.length + 1) (eRow (insE D.E (pos D.E nm) nm (zer (n * 64)))) → Below W.heap.size W w6 →
      Two w w6 D v' ∧ OwnD w6 w'.heap.size ⟨D.size, insE D.E (pos D.E nm) nm (zer (n * 64)), D.W, D.fuse, D.down⟩ ⟨some ⟨g, 0, none⟩, D.E.length + 1, cap, v'.pW, v'.nW, v'.cW⟩ := fun W w6 g cap hh ho hb => by
    rw [hBBs] at hh
    have hlen : (insE D.E (pos D.E nm) nm (zer (n * 64))).length = D.E.length + 1 := insE_length _ _ _ _ (pos_le _ _)
    have hsz := HBS.out
    have hs2 := hh.size
    exact ⟨(TS.out.below hh).below hb, (OS.out.below hh).withE hb ho hlen.symm (by omega) (by omega) (eok_ins OS.out.okE _ HSi.out.1 HSi.out.2.1) (by rw [hlen]; have := HSi.out.2.2; omega)⟩
  have HKs := Lib.hid hKs; have HLs := Lib.hid hLs; have HDs := Lib.hid hDs; have H0s := Lib.hid h0s; have HWi := Lib.hid hWi; have HEnd := Lib.hid hEnd
  have k0 := hKs S h0s
  clear hBBs hKs hLs hDs h0s hWi hEnd HBS
  go_region_law (first
    | (go_simp; go_at_call 37; ((with_reducible refine (HZr.out _).mono ?_)); rintro e wz ⟨rfl, hb⟩; have hwz := HLs.out _ _ (by repeat (first | exact H0s.out | assumption | apply HDs.out)) hb; have kz := HKs.out _ hwz; clear hb)
    | (go_simp; go_at_call 36; ((with_reducible refine (HWi.out _ (by repeat (first | exact H0s.out | assumption | apply HDs.out))).mono ?_)); rintro e w6 ⟨g, cap, rfl, how, hbw⟩
       have hend := HEnd.out _ _ _ _ (by repeat (first | exact H0s.out | assumption | apply HDs.out)) how hbw
       obtain ⟨x0, x1, x2, x3, x4⟩ := hend.1.d.five
       obtain ⟨y0, y1, y2, y3, y4⟩ := hend.1.d.fiveF
       obtain ⟨r0, r1, r2, r3, r4⟩ := hend.1.r.five
       obtain ⟨z0, z1, z2, z3, z4⟩ := hend.1.r.fiveF
       have HE6 := Lib.hid hend
       clear how hbw hend))
  all_goals
    have HFin : Hid (∀ W, Bar w6 W (fun k => k = w.heap.size ∨ k = w.heap.size + 1) → AnsP w (adD D.size D.E D.W D.fuse D.down nm (n : Int)) (adE D.size D.E nm (n : Int)) (.returned (.tuple #[.agg #[.int .i64 D.size, .slice (some ⟨g, 0, none⟩) (D.E.length + 1) cap, .slice v'.pW v'.nW v'.cW, .int .i64 D.fuse, .bool D.down], .int .i64 0])) W) := Lib.hid (fun W hb => by
      rw [HD.out.1]
      exact ans_own HE6.out.2 HT1.out hb HE6.out.1.b HD.out.2)
    go_wp2_with fail
    (try simp only [Exit.inBlock, Exit.then])
    refine bodyPost_ret (v := .tuple #[.agg #[.int .i64 D.size, .slice (some ⟨g, 0, none⟩) (D.E.length + 1) cap, .slice v'.pW v'.nW v'.cW, .int .i64 D.fuse, .bool D.down], .int .i64 0]) ?_ rfl ?_
    · rw [results_cell_tmp rfl]
      go_simp
    · refine HFin.out _ ?_
      repeat (first | refine Bar.setCell ?_ (by first | exact Or.inl rfl | exact Or.inr rfl) _ | exact Bar.refl _ _)
end Go.Proofs.Ytejmbbhbimgheaa.Dk
namespace Go.Proofs.Ytejmbbhbimgheaa.Dk
open Go.RowKit Go.Op Rw

theorem isAt_kept {E : List Ext} (hs : Sorted E) (P : ByteArray → Bool) (c : ByteArray) : isAt (keptEn P E) c = (!P c && isAt E c) := by
  rw [lk_isAt, lk_isAt, lk_kept hs]
  cases P c <;> simp
theorem keptE_two (P Q : ByteArray → Bool) (E : List Ext) : keptEn P (keptEn Q E) = keptEn (fun b => P b || Q b) E := by
  unfold keptEn keptE
  rw [List.filter_filter]
  congr 1
  funext x
  show (!P x.1 && !Q x.1) = !(P x.1 || Q x.1)
  cases P x.1 <;> cases Q x.1 <;> rfl
theorem keptW_two (P Q : ByteArray → Bool) (E : List Wr) : keptWn P (keptWn Q E) = keptWn (fun b => P b || Q b) E := by
  unfold keptWn keptW
  rw [List.filter_filter]
  congr 1
  funext x
  show (!P x.1 && !Q x.1) = !(P x.1 || Q x.1)
  cases P x.1 <;> cases Q x.1 <;> rfl
theorem frP_snoc (N : List ByteArray) (x : ByteArray) : (fun b => nmEq x b || frP N b) = frP (N ++ [x]) := by
  funext b
  unfold frP
  rw [cnt_snoc]
  by_cases h : b = x
  · have h2 : decide (0 < cnt N b + 1) = true := decide_eq_true (by omega)
    rw [if_pos h, nmEq_iff.2 h, h2]; rfl
  · rw [if_neg h]
    have : nmEq x b = false := by
      cases hb : nmEq x b with
      | false => rfl
      | true => exact absurd (nmEq_iff.1 hb) h
    rw [this]; rfl
def frS (D : Dsk) (M : List ByteArray) : Dsk := ⟨D.size, keptEn (frP M) D.E, keptWn (frP M) D.W, D.fuse, D.down⟩
theorem frS_step (D : Dsk) (M : List ByteArray) (x : ByteArray) : woD (frS D M) x = frS D (M ++ [x]) := by
  unfold woD frS
  simp only
  rw [keptE_two, keptW_two, frP_snoc]
theorem frS_nil (D : Dsk) : frS D [] = D := by
  have h : frP [] = fun _ => false := by funext b; rfl
  unfold frS keptEn keptE keptWn keptW
  rw [h]
  have e1 : D.E.filter (fun x => !(fun _ => false) x.1) = D.E := List.filter_eq_self.2 (fun _ _ => rfl)
  have e2 : D.W.filter (fun x => !(fun _ => false) x.1) = D.W := List.filter_eq_self.2 (fun _ _ => rfl)
  rw [e1, e2]
/-- the round of Free -/
structure FrI (w wr : World) (D : Dsk) (v : DVal) (M : List ByteArray) (xb C : Nat) (u : DVal) : Prop where
  two : Two w wr D v
  x : Boxed wr xb [.int .i64 D.size, .slice u.pE u.nE u.cE, .slice u.pW u.nW u.cW, .int .i64 D.fuse, .bool D.down]
  own : OwnD wr C (frS D M) u
  ge : w.heap.size + 2 ≤ C
  xge : w.heap.size + 2 ≤ xb
  ap : ∀ a, u.pE = some a ∨ u.pW = some a → a.block ≠ xb
theorem bar_set5 {W : World} {g : Nat} (a b c d e : Value) (p : Nat → Prop) (hp : p g) : Bar W (((((W.setCell ⟨g, 0, none⟩ a).setCell ⟨g, 1, none⟩ b).setCell ⟨g, 2, none⟩ c).setCell ⟨g, 3, none⟩ d).setCell ⟨g, 4, none⟩ e) p :=
  (((((Bar.refl W p).setCell (q := ⟨g, 0, none⟩) hp a).setCell (q := ⟨g, 1, none⟩) hp b).setCell (q := ⟨g, 2, none⟩) hp c).setCell (q := ⟨g, 3, none⟩) hp d).setCell (q := ⟨g, 4, none⟩) hp e
theorem FrI.next {w wr w4 : World} {D : Dsk} {v : DVal} {M : List ByteArray} {xb C : Nat} {u u' : DVal} (h : FrI w wr D v M xb C u) (hb : Below wr.heap.size wr w4) (x : ByteArray) (ho : OwnD w4 wr.heap.size (woD (frS D M) x) u') (hC : C ≤ wr.heap.size) :
    FrI w (((((w4.setCell ⟨xb, 0, none⟩ (.int .i64 D.size)).setCell ⟨xb, 1, none⟩ (.slice u'.pE u'.nE u'.cE)).setCell ⟨xb, 2, none⟩ (.slice u'.pW u'.nW u'.cW)).setCell ⟨xb, 3, none⟩ (.int .i64 D.fuse)).setCell ⟨xb, 4, none⟩ (.bool D.down)) D v (M ++ [x]) xb C u' := by
  have hxl := h.x.lt
  have hx4 := h.x.below hb
  have t4 := h.two.below hb
  have hxg := h.xge
  have hbar : Bar w4 (((((w4.setCell ⟨xb, 0, none⟩ (.int .i64 D.size)).setCell ⟨xb, 1, none⟩ (.slice u'.pE u'.nE u'.cE)).setCell ⟨xb, 2, none⟩ (.slice u'.pW u'.nW u'.cW)).setCell ⟨xb, 3, none⟩ (.int .i64 D.fuse)).setCell ⟨xb, 4, none⟩ (.bool D.down)) (fun k => k = xb) := bar_set5 _ _ _ _ _ _ rfl
  have hst := ((((hx4.set (i := 0) (by simp) (.int .i64 D.size)).set (i := 1) (by simp) (.slice u'.pE u'.nE u'.cE)).set (i := 2) (by simp) (.slice u'.pW u'.nW u'.cW)).set (i := 3) (by simp) (.int .i64 D.fuse)).set (i := 4) (by simp) (.bool D.down)
  have hap : ∀ a, u'.pE = some a ∨ u'.pW = some a → a.block ≠ xb := fun a e => by
    rcases e with e | e
    · have := ho.above.1 a e; omega
    · have := ho.above.2 a e; omega
  have h5 := hbar.below (B := w.heap.size) (fun k _ e => by omega) t4.b.size
  refine ⟨⟨t4.d.bar hbar (by omega), t4.r.bar hbar (by omega), t4.b.trans h5⟩, hst, ?_, h.ge, h.xge, hap⟩
  rw [← frS_step]
  exact (ho.base hC).bar hbar (fun a e => hap a e)
theorem FrI.start {w w1 w3 : World} {D : Dsk} {v u : DVal} (t : Two w w1 D v) (hb : Below w1.heap.size w1 w3) (ho : OwnD w3 w1.heap.size D u) : FrI w (w3.alloc (.cells #[.int .i64 D.size, .slice u.pE u.nE u.cE, .slice u.pW u.nW u.cW, .int .i64 D.fuse, .bool D.down] 25)) D v [] w3.heap.size w1.heap.size u := by
  have hal : Below w3.heap.size w3 (w3.alloc (.cells #[.int .i64 D.size, .slice u.pE u.nE u.cE, .slice u.pW u.nW u.cW, .int .i64 D.fuse, .bool D.down] 25)) := (Below.refl _ _).alloc (Nat.le_refl _) _
  have hlt := t.lt
  have hs := hb.size
  refine ⟨(t.below hb).below hal, Boxed.new w3 #[.int .i64 D.size, .slice u.pE u.nE u.cE, .slice u.pW u.nW u.cW, .int .i64 D.fuse, .bool D.down] 25, ?_, hlt, by omega, fun a e => ?_⟩
  · rw [frS_nil]; exact ho.below hal
  · rcases e with e | e
    · have := (own_aboveV ho.E a e).2; omega
    · have := (own_aboveV ho.W a e).2; omega
set_option maxHeartbeats 16000000 in
set_option maxRecDepth 100000 in
theorem rFree_any (D : Dsk) (v : DVal) (N : List ByteArray) (pN : Option Addr) (nN cN : Nat) (w : World) (h : VarAt w D v) (hc : v.nE ≤ v.cE) (hf : Few D) (hnN : nN = N.length) (hN : Rd w pN (strs N)) (hNl : nN ≤ 140737488355328) :
    Calls Try.prog 9 #[.agg #[.int .i64 D.size, .slice v.pE v.nE v.cE, .slice v.pW v.nW v.cW, .int .i64 D.fuse, .bool D.down], .slice pN nN cN] w (AnsP w (frD D N) (frE D N)) := by
  have HRN : Hid (∀ W, Below w.heap.size w W → Rd W pN (strs N)) := Lib.hid (fun W hb => hN.below hb)
  have HNN := Lib.hid hnN
  clear hN hnN
  obtain ⟨W2, hW2⟩ : ∃ W2, W2 = ((w.alloc (.cells #[.int .i64 D.size, .slice v.pE v.nE v.cE, .slice v.pW v.nW v.cW, .int .i64 D.fuse, .bool D.down] 25)).alloc (.cells #[.int .i64 0, .slice none 0 0, .slice none 0 0, .int .i64 0, .bool false] 25)) := ⟨_, rfl⟩
  have tw := Two.new w D v
  rw [← hW2] at tw
  have hv := h.below tw.b
  have HW2 := Lib.hid hW2; have HV := Lib.hid hv
  obtain ⟨r, hr⟩ : ∃ r, r = rdy D := ⟨_, rfl⟩
  have HPw : Hid (∀ W, Below W2.heap.size W2 W → Calls Try.prog 31 #[.agg #[.int .i64 D.size, .slice v.pE v.nE v.cE, .slice v.pW v.nW v.cW, .int .i64 D.fuse, .bool D.down]] W fun e w' => e = .returned (.int .i64 r) ∧ Below W.heap.size W w') := Lib.hid (fun W hb => by rw [hr]; exact rpower_any D v W (hv.below hb) hc)
  have HCp : Hid (∀ W, Below W2.heap.size W2 W → Calls Try.prog 5 #[.agg #[.int .i64 D.size, .slice v.pE v.nE v.cE, .slice v.pW v.nW v.cW, .int .i64 D.fuse, .bool D.down]] W (CpP W D)) := Lib.hid (fun W hb => rCopy_any D v W (hv.below hb) hf)
  have HAs : Hid (∀ why W, Below W2.heap.size W2 W → Calls Try.prog 32 #[.agg #[.int .i64 D.size, .slice v.pE v.nE v.cE, .slice v.pW v.nW v.cW, .int .i64 D.fuse, .bool D.down], .int .i64 why] W (AnsP W (asD D why) why)) := Lib.hid (fun why W hb => ras_any D v why W (hv.below hb) hc hf)
  have TW := Lib.hid tw; have HR := Lib.hid hr
  obtain ⟨q0, q1, q2, q3, q4⟩ := tw.d.five
  have HLf := h.lim.f
  clear h hc hf tw hv hW2 hr
  by_cases h0 : r = 0
  case neg =>
    have t0 : (r != 0) = true := by rw [bne_iff_ne]; exact h0
    have F : Hid (asD D r = frD D N ∧ r = frE D N) := Lib.hid (by
      rw [HR.out] at h0 ⊢
      exact as_rdy h0 _ _)
    clear h0 HCp
    go_enter Try.func9, Try.ntmps9
    go_wp2_with fail
    rw [← HW2.out]
    refine (HPw.out _ (Below.refl _ _)).mono ?_
    rintro e w1 ⟨rfl, b1⟩
    have TW1 := Lib.hid (TW.out.below b1)
    obtain ⟨q0, q1, q2, q3, q4⟩ := TW1.out.d.five
    have HBC := Lib.hid b1
    clear b1
    go_wp2_with fail
    refine (HAs.out r _ HBC.out).mono ?_
    rintro e w3 ⟨v', rfl, hvar, habv, b3⟩
    have tw3 := TW1.out.below b3
    have hlt := TW1.out.lt
    have HFin : Hid (∀ W, Bar w3 W (fun k => k = w.heap.size ∨ k = w.heap.size + 1) → AnsP w (frD D N) (frE D N) (.returned (.tuple #[.agg #[.int .i64 (asD D r).size, .slice v'.pE v'.nE v'.cE, .slice v'.pW v'.nW v'.cW, .int .i64 (asD D r).fuse, .bool (asD D r).down], .int .i64 r])) W) := Lib.hid (fun W hb => by rw [← F.out.1]; exact ans_var hvar habv hlt hb (TW1.out.b.trans (b3.mono TW1.out.b.size)) F.out.2)
    obtain ⟨p0, p1, p2, p3, p4⟩ := tw3.r.five
    obtain ⟨f0, f1, f2, f3, f4⟩ := tw3.r.fiveF
    clear hvar habv b3 tw3 hlt
    go_wp2_with fail
    (try simp only [Exit.inBlock, Exit.then])
    refine bodyPost_ret (v := .tuple #[.agg #[.int .i64 (asD D r).size, .slice v'.pE v'.nE v'.cE, .slice v'.pW v'.nW v'.cW, .int .i64 (asD D r).fuse, .bool (asD D r).down], .int .i64 r]) ?_ rfl ?_
    · rw [results_cell_tmp rfl]
      go_simp
    · refine HFin.out _ ?_
      repeat (first | refine Bar.setCell ?_ (by first | exact Or.inl rfl | exact Or.inr rfl) _ | exact Bar.refl _ _)
  subst h0
  have hy : rdy D = 0 := HR.out.symm
  have eD : frD D N = freD D.size D.E D.W D.fuse D.down N := by unfold frD; rw [chg_ok hy]
  have eE : frE D N = freE D.E N := chgR_ok hy
  rw [eD, eE]
  have HSo := Lib.hid (lim_rdy hy).1
  have HlE := Lib.hid (lim_rdy hy).2.1
  have HlW := Lib.hid (lim_rdy hy).2.2.1
  have HNo := Lib.hid (as_no (er := 3) hy)
  clear eD eE hy
  go_enter Try.func9, Try.ntmps9
  go_wp2_with fail
  rw [← HW2.out]
  refine (HPw.out _ (Below.refl _ _)).mono ?_
  rintro e w1 ⟨rfl, b1⟩
  have TW1 := Lib.hid (TW.out.below b1)
  have HBC := Lib.hid b1
  obtain ⟨q0, q1, q2, q3, q4⟩ := TW1.out.d.five
  clear b1
  go_wp2_with fail
  refine (HCp.out _ HBC.out).mono ?_
  rintro e w3 ⟨u0, rfl, hown, b3⟩
  have fi := FrI.start TW1.out b3 hown
  obtain ⟨S, hS⟩ : ∃ S, S = (w3.alloc (.cells #[.int .i64 D.size, .slice u0.pE u0.nE u0.cE, .slice u0.pW u0.nW u0.cW, .int .i64 D.fuse, .bool D.down] 25)) := ⟨_, rfl⟩
  rw [← hS] at fi
  have HBS : Hid (Below W2.heap.size W2 S) := Lib.hid (by rw [hS]; exact (HBC.out.trans (b3.mono HBC.out.size)).alloc (Nat.le_trans HBC.out.size b3.size) _)
  have HLs : Hid (w1.heap.size ≤ S.heap.size) := Lib.hid (by rw [hS]; have := b3.size; simp; omega)
  have HXB0 : Hid (W2.heap.size ≤ w3.heap.size) := Lib.hid (Nat.le_trans HBC.out.size b3.size)
  have FI := Lib.hid fi; have HS := Lib.hid hS
  clear fi hS hown b3
  go_wp2_with fail
  rw [← HS.out]
  obtain ⟨xb, hxb⟩ : ∃ xb, xb = w3.heap.size := ⟨_, rfl⟩
  have HXB : Hid (W2.heap.size ≤ xb) := Lib.hid (by rw [hxb]; exact HXB0.out)
  rw [← hxb] at FI ⊢
  clear HS hxb q0 q1 q2 q3 q4
  go_loopw [9, 23] (fun _ i wr => ∃ (k : Nat) (u : DVal), k ≤ nN ∧ i = .int .i64 k ∧ frOk D.E [] N = frOk D.E (N.take k) (N.drop k) ∧ FrI w wr D v (N.take k) xb w1.heap.size u ∧ Below W2.heap.size W2 wr ∧ w1.heap.size ≤ wr.heap.size) (fun _ i _ => nN - (intOf i).toNat)
  case atStart => exact ⟨0, u0, by omega, rfl, rfl, FI.out, HBS.out, HLs.out⟩
  case round =>
    obtain ⟨k, u, hk, rfl, hok, hfi, hbW, hle⟩ := hrel
    by_cases hlt : k < nN
    · have hkN : k < N.length := by rw [← HNN.out]; exact hlt
      obtain ⟨ak, rfl, hal, hkc⟩ := HRN.out wr hfi.two.b k (by simp [strs]; exact hkN)
      rw [strs_getD N k hkN] at hkc
      have hst := frOk_from D.E N k hkN
      have htk := take_snoc N k hkN
      obtain ⟨x, hx⟩ : ∃ x, x = N.getD k default := ⟨_, rfl⟩
      rw [← hx] at hkc hst htk
      have hso2 : Sorted (keptEn (frP (N.take k)) D.E) := HSo.out.sub List.filter_sublist
      have hfp := fnd_pos hso2 x
      have hia := isAt_kept HSo.out (frP (N.take k)) x
      obtain ⟨p, hp⟩ : ∃ p, p = fnd (keptEn (frP (N.take k)) D.E) x := ⟨_, rfl⟩
      have HFi : Hid (Calls Try.prog 34 #[.slice u.pE u.nE u.cE, .string x] wr fun e w' => e = .returned (.int .i64 p) ∧ Below wr.heap.size wr w') := Lib.hid (by rw [hp]; exact rFind_any _ u.pE u.nE u.cE x wr hfi.own.at.hE hfi.own.at.E hfi.own.at.l1)
      rw [← hp] at hfp
      have m0 : (0 : Int) ≤ (k : Int) := by omega
      have m1 : (k : Int) < (nN : Int) := by omega
      obtain ⟨q0, q1, q2, q3, q4⟩ := hfi.x.five
      have hfr : frP (N.take k) x = !decide (cnt (N.take k) x = 0) := by
        unfold frP
        by_cases h0 : cnt (N.take k) x = 0
        · rw [decide_eq_true h0, decide_eq_false (by omega)]; rfl
        · rw [decide_eq_false h0, decide_eq_true (by omega)]; rfl
      rw [hfr, Bool.not_not] at hia
      have HFI := Lib.hid hfi; have HBW := Lib.hid hbW; have HLE := Lib.hid hle
      by_cases hi : isAt (keptEn (frP (N.take k)) D.E) x = true
      case neg =>
        have t3 : decide (p < 0) = true := decide_eq_true (by rw [hfp, if_neg hi]; omega)
        have F : Hid (asD D 3 = freD D.size D.E D.W D.fuse D.down N ∧ (3 : Int) = freE D.E N) := Lib.hid (by
          have hno : frOk D.E [] N = false := by
            rw [hok, hst]
            rw [hia] at hi
            cases h1 : isAt D.E x with
            | false => rfl
            | true =>
              cases h2 : decide (cnt (N.take k) x = 0) with
              | false => rfl
              | true => rw [h1, h2] at hi; exact absurd rfl hi
          rw [HNo.out]
          unfold freD freE
          rw [hno]
          exact ⟨rfl, rfl⟩)
        clear hok hfi hbW hle hkN hal hst htk hx hso2 hfp hia hp hfr hi
        go_wp2_with fail
        refine HFi.out.mono ?_
        rintro e w5 ⟨rfl, b5⟩
        have HBC5 := Lib.hid (HBW.out.trans (b5.mono HBW.out.size))
        have TW5 := Lib.hid (HFI.out.two.below b5)
        obtain ⟨q0, q1, q2, q3, q4⟩ := TW5.out.d.five
        have HBC := Lib.hid HBC5.out
        clear b5
        go_wp2_with fail
        refine (HAs.out 3 _ HBC.out).mono ?_
        rintro e w3 ⟨v', rfl, hvar, habv, b3⟩
        have tw3 := TW5.out.below b3
        have hlt := TW5.out.lt
        have HFin : Hid (∀ W, Bar w3 W (fun k => k = w.heap.size ∨ k = w.heap.size + 1) → AnsP w (freD D.size D.E D.W D.fuse D.down N) (freE D.E N) (.returned (.tuple #[.agg #[.int .i64 (asD D 3).size, .slice v'.pE v'.nE v'.cE, .slice v'.pW v'.nW v'.cW, .int .i64 (asD D 3).fuse, .bool (asD D 3).down], .int .i64 3])) W) := Lib.hid (fun W hb => by rw [← F.out.1]; exact ans_var hvar habv hlt hb (TW5.out.b.trans (b3.mono TW5.out.b.size)) F.out.2)
        obtain ⟨p0, p1, p2, p3, p4⟩ := tw3.r.five
        obtain ⟨f0, f1, f2, f3, f4⟩ := tw3.r.fiveF
        clear hvar habv b3 tw3 hlt
        go_wp2_with fail
        (try simp only [Exit.inBlock, Exit.then])
        refine bodyPost_ret (v := .tuple #[.agg #[.int .i64 (asD D 3).size, .slice v'.pE v'.nE v'.cE, .slice v'.pW v'.nW v'.cW, .int .i64 (asD D 3).fuse, .bool (asD D 3).down], .int .i64 3]) ?_ rfl ?_
        · rw [results_cell_tmp rfl]
          go_simp
        · refine HFin.out _ ?_
          repeat (first | refine Bar.setCell ?_ (by first | exact Or.inl rfl | exact Or.inr rfl) _ | exact Bar.refl _ _)
      have t3 : decide (p < 0) = false := decide_eq_false (by rw [hfp, if_pos hi]; omega)
      have HOK : Hid (frOk D.E [] N = frOk D.E (N.take (k + 1)) (N.drop (k + 1))) := Lib.hid (by
        rw [hok, hst]
        rw [hia, Bool.and_eq_true] at hi
        rw [hi.1, hi.2]; rfl)
      have HTK := Lib.hid htk
      have hl1 : u.nE ≤ 1000000 := by
        rw [hfi.own.hE]
        have : (keptEn (frP (N.take k)) D.E).length ≤ D.E.length := List.length_filter_le _ _
        have h2 := HlE.out
        show (keptEn (frP (N.take k)) D.E).length ≤ _
        omega
      have hl2 : u.nW ≤ 1000000 := by
        rw [hfi.own.hW]
        have : (keptWn (frP (N.take k)) D.W).length ≤ D.W.length := List.length_filter_le _ _
        have h2 := HlW.out
        show (keptWn (frP (N.take k)) D.W).length ≤ _
        omega
      have HWo : Hid (∀ W, Below wr.heap.size wr W → Calls Try.prog 40 #[.agg #[.int .i64 D.size, .slice u.pE u.nE u.cE, .slice u.pW u.nW u.cW, .int .i64 D.fuse, .bool D.down], .string x] W (CpP W (woD (frS D (N.take k)) x))) := Lib.hid (fun W hb => rwithout_any (frS D (N.take k)) u x W (hfi.own.at.below hb) hl1 hl2)
      clear hok hfi hbW hle hkN hal hst htk hx hso2 hfp hia hp hfr hi hl1 hl2
      go_wp2_with fail
      refine HFi.out.mono ?_
      rintro e w5 ⟨rfl, b5⟩
      have x5 := HFI.out.x.below b5
      obtain ⟨q0, q1, q2, q3, q4⟩ := x5.five
      have B5 := Lib.hid b5
      clear b5 x5
      go_wp2_with fail
      refine (HWo.out _ B5.out).mono ?_
      rintro e w6 ⟨u', rfl, ho6, b6⟩
      have fi5 : FrI w w5 D v (N.take k) xb w1.heap.size u := ⟨HFI.out.two.below B5.out, HFI.out.x.below B5.out, HFI.out.own.below B5.out, HFI.out.ge, HFI.out.xge, HFI.out.ap⟩
      have hl5 : w1.heap.size ≤ w5.heap.size := Nat.le_trans HLE.out B5.out.size
      have fi6 := fi5.next b6 x ho6 hl5
      rw [← HTK.out] at fi6
      have x6 := fi5.x.below b6
      obtain ⟨p0, p1, p2, p3, p4⟩ := x6.five
      obtain ⟨f0, f1, f2, f3, f4⟩ := x6.fiveF
      have hw26 := (HBW.out.trans (B5.out.mono HBW.out.size)).trans (b6.mono (Nat.le_trans HBW.out.size B5.out.size))
      have FI6 := Lib.hid fi6
      have HX6 : Hid (Below W2.heap.size W2 (((((w6.setCell ⟨xb, 0, none⟩ (.int .i64 D.size)).setCell ⟨xb, 1, none⟩ (.slice u'.pE u'.nE u'.cE)).setCell ⟨xb, 2, none⟩ (.slice u'.pW u'.nW u'.cW)).setCell ⟨xb, 3, none⟩ (.int .i64 D.fuse)).setCell ⟨xb, 4, none⟩ (.bool D.down)) ∧ w1.heap.size ≤ (((((w6.setCell ⟨xb, 0, none⟩ (.int .i64 D.size)).setCell ⟨xb, 1, none⟩ (.slice u'.pE u'.nE u'.cE)).setCell ⟨xb, 2, none⟩ (.slice u'.pW u'.nW u'.cW)).setCell ⟨xb, 3, none⟩ (.int .i64 D.fuse)).setCell ⟨xb, 4, none⟩ (.bool D.down)).heap.size) := Lib.hid (by
        have hg := HXB.out
        refine ⟨hw26.trans ((bar_set5 _ _ _ _ _ (fun k => k = xb) rfl).below (B := W2.heap.size) (fun k _ e => by omega) hw26.size), ?_⟩
        simp only [World.size_setCell]
        exact Nat.le_trans hl5 b6.size)
      clear ho6 b6 fi5 fi6 x6 hw26 hl5
      go_wp2_with fail
      go_roundw
      case rel => exact ⟨k + 1, u', by omega, by go_num, HOK.out, FI6.out, HX6.out.1, HX6.out.2⟩
      case measure => simp [intOf]; omega
    · have hke : k = N.length := by rw [← HNN.out]; omega
      have hfin : frOk D.E [] N = true := by rw [hok, hke, List.drop_length]; rfl
      have HFI := Lib.hid hfi
      have HFin : Hid (∀ W, Bar wr W (fun k => k = w.heap.size ∨ k = w.heap.size + 1) → AnsP w (freD D.size D.E D.W D.fuse D.down N) (freE D.E N) (.returned (.tuple #[.agg #[.int .i64 D.size, .slice u.pE u.nE u.cE, .slice u.pW u.nW u.cW, .int .i64 D.fuse, .bool D.down], .int .i64 0])) W) := Lib.hid (fun W hb => by
        have e1 : freD D.size D.E D.W D.fuse D.down N = frS D N := by unfold freD; rw [if_pos hfin]; rfl
        have e2 : (0 : Int) = freE D.E N := by unfold freE; rw [if_pos hfin]
        have ho := HFI.out.own
        rw [hke, List.take_length] at ho
        rw [e1]
        exact ans_own ho HFI.out.ge hb HFI.out.two.b e2)
      have t : decide (k < nN) = false := decide_eq_false hlt
      obtain ⟨p0, p1, p2, p3, p4⟩ := hfi.x.five
      obtain ⟨r0, r1, r2, r3, r4⟩ := hfi.two.r.five
      obtain ⟨k0, k1, k2, k3, k4⟩ := hfi.two.r.fiveF
      clear hok hfi hbW hle hke hfin
      go_wp2_with fail
      (try simp only [Exit.inBlock, Exit.then])
      refine bodyPost_ret (v := .tuple #[.agg #[.int .i64 D.size, .slice u.pE u.nE u.cE, .slice u.pW u.nW u.cW, .int .i64 D.fuse, .bool D.down], .int .i64 0]) ?_ rfl ?_
      · rw [results_cell_tmp rfl]
        go_simp
      · refine HFin.out _ ?_
        repeat (first | refine Bar.setCell ?_ (by first | exact Or.inl rfl | exact Or.inr rfl) _ | exact Bar.refl _ _)
end Go.Proofs.Ytejmbbhbimgheaa.Dk
namespace Go.Proofs.Ytejmbbhbimgheaa.Dk
open Go.RowKit Go.Op Rw

theorem cut_kept {M : List Ext} (hs : Sorted M) {fr : ByteArray} (hi : isAt M fr = true) : keptEn (nmEq fr) M = M.take (pos M fr) ++ M.drop (pos M fr + 1) := by
  obtain ⟨q, hq⟩ : ∃ q, q = pos M fr := ⟨_, rfl⟩
  have hql : q < M.length := by rw [hq]; exact isAt_lt hi
  have hqn : (M.getD q default).1 = fr := by
    unfold isAt at hi
    rw [Bool.and_eq_true] at hi
    rw [hq]; exact of_decide_eq_true hi.2
  rw [← hq]
  have e : M = M.take q ++ M.getD q default :: M.drop (q + 1) := by
    conv => lhs; rw [← List.take_append_drop q M, drop_ext M q hql]
  unfold keptEn keptE
  conv => lhs; rw [e]
  rw [List.filter_append, List.filter_cons]
  have hb : nmEq fr (M.getD q default).1 = true := nmEq_iff.2 hqn
  show (M.take q).filter (fun x => !nmEq fr x.1) ++ (if (!nmEq fr (M.getD q default).1) = true then M.getD q default :: (M.drop (q + 1)).filter (fun x => !nmEq fr x.1) else (M.drop (q + 1)).filter (fun x => !nmEq fr x.1)) = _
  rw [hb]
  have e1 : (M.take q).filter (fun x => !nmEq fr x.1) = M.take q := List.filter_eq_self.2 (fun x hx => by
    obtain ⟨i, hil, rfl⟩ := List.mem_iff_getElem.1 hx
    rw [List.length_take] at hil
    rw [List.getElem_take]
    have hlt := pos_below M fr i (by rw [← hq]; omega)
    rw [getD_getE M i (by omega)] at hlt
    cases hc : nmEq fr (M[i]'(by omega)).1 with
    | false => rfl
    | true => exact absurd (nmEq_iff.1 hc) (nlt_ne hlt))
  have e2 : (M.drop (q + 1)).filter (fun x => !nmEq fr x.1) = M.drop (q + 1) := List.filter_eq_self.2 (fun x hx => by
    obtain ⟨i, hil, rfl⟩ := List.mem_iff_getElem.1 hx
    rw [List.length_drop] at hil
    rw [List.getElem_drop]
    have hlt := hs q (q + 1 + i) (by omega) (by omega)
    rw [hqn, getD_getE M (q + 1 + i) (by omega)] at hlt
    cases hc : nmEq fr (M[q + 1 + i]'(by omega)).1 with
    | false => rfl
    | true => exact absurd (nmEq_iff.1 hc).symm (nlt_ne hlt))
  rw [e1, e2]
  rfl
theorem mv_data {E : List Ext} (hs : Sorted E) {fr to : ByteArray} (hi : isAt E fr = true) (hne : nmEq to fr = false) : ((mvE1 E to).getD (pos (mvE1 E to) fr) default).2 = (E.getD (pos E fr) default).2 := by
  have h1 := mvE1_at hs hi hne
  have h2 : lk (mvE1 E to) fr = lk E fr := by
    unfold mvE1
    rw [lk_kept hs, hne, if_neg (by simp)]
  unfold lk at h2
  rw [if_pos h1, if_pos hi] at h2
  injection h2
theorem mvL_put (L : List Wr) (fr to : ByteArray) (k : Nat) (hk : k < L.length) : mvL (L.take (k + 1)) fr to = if nmEq to (L.getD k default).1 = true then mvL (L.take k) fr to else mvL (L.take k) fr to ++ [renW fr to (L.getD k default)] := by
  unfold mvL
  rw [keptW_put _ _ _ hk]
  split
  · rfl
  · rw [List.map_append]; rfl
/-- where the loop of what waits stands -/
structure MvI (w wr : World) (D : Dsk) (v : DVal) (xb : Nat) (x y : ByteArray) (L : List Wr) (p : Option Addr) (m c : Nat) : Prop where
  two : Two w wr D v
  x : Boxed wr xb [.string x, .string y]
  row : wr.ownsRow (xb + 1) 63 3 (.slice p m c) m (wRow L)
  ok : WOk L
  ge : w.heap.size + 2 ≤ xb
  le : xb + 1 ≤ wr.heap.size
theorem MvI.below {w wr w2 : World} {D : Dsk} {v : DVal} {xb : Nat} {x y : ByteArray} {L : List Wr} {p : Option Addr} {m c : Nat} (h : MvI w wr D v xb x y L p m c) (hb : Below wr.heap.size wr w2) : MvI w w2 D v xb x y L p m c :=
  ⟨h.two.below hb, h.x.below hb, own_below h.row hb, h.ok, h.ge, Nat.le_trans h.le hb.size⟩
theorem MvI.push {w wr w5 : World} {D : Dsk} {v : DVal} {xb : Nat} {x y : ByteArray} {L : List Wr} {p : Option Addr} {m c g cap : Nat} (h : MvI w wr D v xb x y L p m c) {n d : ByteArray} {s : Int}
    (hown : w5.ownsRow (xb + 1) 63 3 (.slice (some ⟨g, 0, none⟩) (m + 1) cap) (m + 1) (wRow L ++ [.string n, .int .i64 s, .string d])) (hb : Below (xb + 1) wr w5) (h1 : n.size ≤ 140737488355328) (h2 : d.size ≤ 140737488355328) :
    MvI w w5 D v xb x y (L ++ [(n, s, d)]) (some ⟨g, 0, none⟩) (m + 1) cap := by
  have hg := h.ge
  have e : wRow (L ++ [(n, s, d)]) = wRow L ++ [.string n, .int .i64 s, .string d] := by rw [wRow_app]; rfl
  have l0 : w.heap.size < xb + 1 := by omega
  have l1 : w.heap.size + 1 < xb + 1 := by omega
  have l2 : w.heap.size ≤ xb + 1 := by omega
  refine ⟨⟨h.two.d.belowB hb l0, h.two.r.belowB hb l1, h.two.b.trans (hb.mono l2)⟩, h.x.belowB hb (Nat.lt_succ_self _), ?_, ?_, h.ge, Nat.le_trans h.le hb.size⟩
  · rw [e]; exact hown
  · intro i hi
    simp only [List.length_append, List.length_singleton] at hi
    rcases Nat.lt_or_ge i L.length with hi2 | hi2
    · have := h.ok i hi2
      simpa [List.getD_eq_getElem?_getD, List.getElem?_append_left hi2] using this
    · obtain rfl : i = L.length := by omega
      simpa [List.getD_eq_getElem?_getD] using ⟨h1, h2⟩
set_option maxHeartbeats 16000000 in
set_option maxRecDepth 100000 in
theorem rMove_any (D : Dsk) (v : DVal) (fr to : ByteArray) (w : World) (h : VarAt w D v) (hc : v.nE ≤ v.cE) (hf : Few D) (h1 : to.size ≤ 140737488355328) :
    Calls Try.prog 11 #[.agg #[.int .i64 D.size, .slice v.pE v.nE v.cE, .slice v.pW v.nW v.cW, .int .i64 D.fuse, .bool D.down], .string fr, .string to] w (AnsP w (mvD D fr to) (mvE D fr to)) := by
  obtain ⟨i1, hi1, hy0, hy1, hy2⟩ := info_parts info_wr
  obtain ⟨W2, hW2⟩ : ∃ W2, W2 = ((w.alloc (.cells #[.int .i64 D.size, .slice v.pE v.nE v.cE, .slice v.pW v.nW v.cW, .int .i64 D.fuse, .bool D.down] 25)).alloc (.cells #[.int .i64 0, .slice none 0 0, .slice none 0 0, .int .i64 0, .bool false] 25)) := ⟨_, rfl⟩
  have tw := Two.new w D v
  rw [← hW2] at tw
  have hv := h.below tw.b
  have HW2 := Lib.hid hW2; have HV := Lib.hid hv
  obtain ⟨r, hr⟩ : ∃ r, r = rdy D := ⟨_, rfl⟩
  have HPw : Hid (∀ W, Below W2.heap.size W2 W → Calls Try.prog 31 #[.agg #[.int .i64 D.size, .slice v.pE v.nE v.cE, .slice v.pW v.nW v.cW, .int .i64 D.fuse, .bool D.down]] W fun e w' => e = .returned (.int .i64 r) ∧ Below W.heap.size W w') := Lib.hid (fun W hb => by rw [hr]; exact rpower_any D v W (hv.below hb) hc)
  have HCp : Hid (∀ W, Below W2.heap.size W2 W → Calls Try.prog 5 #[.agg #[.int .i64 D.size, .slice v.pE v.nE v.cE, .slice v.pW v.nW v.cW, .int .i64 D.fuse, .bool D.down]] W (CpP W D)) := Lib.hid (fun W hb => rCopy_any D v W (hv.below hb) hf)
  have HAs : Hid (∀ why W, Below W2.heap.size W2 W → Calls Try.prog 32 #[.agg #[.int .i64 D.size, .slice v.pE v.nE v.cE, .slice v.pW v.nW v.cW, .int .i64 D.fuse, .bool D.down], .int .i64 why] W (AnsP W (asD D why) why)) := Lib.hid (fun why W hb => ras_any D v why W (hv.below hb) hc hf)
  have TW := Lib.hid tw; have HR := Lib.hid hr
  obtain ⟨q0, q1, q2, q3, q4⟩ := tw.d.five
  have HLf := h.lim.f
  clear h hc hf tw hv hW2 hr
  by_cases h0 : r = 0
  case neg =>
    have t0 : (r != 0) = true := by rw [bne_iff_ne]; exact h0
    have F : Hid (asD D r = mvD D fr to ∧ r = mvE D fr to) := Lib.hid (by
      rw [HR.out] at h0 ⊢
      exact as_rdy h0 _ _)
    clear h0 HCp
    go_enter Try.func11, Try.ntmps11
    go_wp2_with fail
    rw [← HW2.out]
    refine (HPw.out _ (Below.refl _ _)).mono ?_
    rintro e w1 ⟨rfl, b1⟩
    have TW1 := Lib.hid (TW.out.below b1)
    obtain ⟨q0, q1, q2, q3, q4⟩ := TW1.out.d.five
    have HBC := Lib.hid b1
    clear b1
    go_wp2_with fail
    refine (HAs.out r _ HBC.out).mono ?_
    rintro e w3 ⟨v', rfl, hvar, habv, b3⟩
    have tw3 := TW1.out.below b3
    have hlt := TW1.out.lt
    have HFin : Hid (∀ W, Bar w3 W (fun k => k = w.heap.size ∨ k = w.heap.size + 1) → AnsP w (mvD D fr to) (mvE D fr to) (.returned (.tuple #[.agg #[.int .i64 (asD D r).size, .slice v'.pE v'.nE v'.cE, .slice v'.pW v'.nW v'.cW, .int .i64 (asD D r).fuse, .bool (asD D r).down], .int .i64 r])) W) := Lib.hid (fun W hb => by rw [← F.out.1]; exact ans_var hvar habv hlt hb (TW1.out.b.trans (b3.mono TW1.out.b.size)) F.out.2)
    obtain ⟨p0, p1, p2, p3, p4⟩ := tw3.r.five
    obtain ⟨f0, f1, f2, f3, f4⟩ := tw3.r.fiveF
    clear hvar habv b3 tw3 hlt
    go_wp2_with fail
    (try simp only [Exit.inBlock, Exit.then])
    refine bodyPost_ret (v := .tuple #[.agg #[.int .i64 (asD D r).size, .slice v'.pE v'.nE v'.cE, .slice v'.pW v'.nW v'.cW, .int .i64 (asD D r).fuse, .bool (asD D r).down], .int .i64 r]) ?_ rfl ?_
    · rw [results_cell_tmp rfl]
      go_simp
    · refine HFin.out _ ?_
      repeat (first | refine Bar.setCell ?_ (by first | exact Or.inl rfl | exact Or.inr rfl) _ | exact Bar.refl _ _)
  subst h0
  have hy : rdy D = 0 := HR.out.symm
  have eD : mvD D fr to = movD D.size D.E D.W D.fuse D.down fr to := by unfold mvD; rw [chg_ok hy]
  have eE : mvE D fr to = movE D.E fr to := chgR_ok hy
  rw [eD, eE]
  have hso : Sorted D.E := (lim_rdy hy).1
  have hlE : D.E.length ≤ 1000000 := (lim_rdy hy).2.1
  have hlW : D.W.length ≤ 16384 := (lim_rdy hy).2.2.1
  clear eD eE
  by_cases c1 : named to = true
  case neg =>
    have HNm : Hid (∀ W, Calls Try.prog 33 #[.string to] W fun e w' => e = .returned (.bool false) ∧ W = w') := Lib.hid (fun W => by have := rNamed_any to W h1; rw [Bool.eq_false_iff.2 c1] at this; exact this)
    have F : Hid (asD D 1 = movD D.size D.E D.W D.fuse D.down fr to ∧ (1 : Int) = movE D.E fr to) := Lib.hid ⟨by
      rw [as_no hy]
      unfold movD
      rw [if_neg (fun hh => c1 hh.1)], by unfold movE; rw [if_neg c1]⟩
    clear c1 hy hso hlE hlW HCp
    go_enter Try.func11, Try.ntmps11
    go_wp2_with fail
    rw [← HW2.out]
    refine (HPw.out _ (Below.refl _ _)).mono ?_
    rintro e w1 ⟨rfl, b1⟩
    have TW1 := Lib.hid (TW.out.below b1)
    have HBC := Lib.hid b1
    obtain ⟨q0, q1, q2, q3, q4⟩ := TW1.out.d.five
    clear b1
    go_wp2_with fail
    refine (HNm.out _).mono ?_
    rintro e w1x ⟨rfl, rfl⟩
    go_wp2_with fail
    refine (HAs.out 1 _ HBC.out).mono ?_
    rintro e w3 ⟨v', rfl, hvar, habv, b3⟩
    have tw3 := TW1.out.below b3
    have hlt := TW1.out.lt
    have HFin : Hid (∀ W, Bar w3 W (fun k => k = w.heap.size ∨ k = w.heap.size + 1) → AnsP w (movD D.size D.E D.W D.fuse D.down fr to) (movE D.E fr to) (.returned (.tuple #[.agg #[.int .i64 (asD D 1).size, .slice v'.pE v'.nE v'.cE, .slice v'.pW v'.nW v'.cW, .int .i64 (asD D 1).fuse, .bool (asD D 1).down], .int .i64 1])) W) := Lib.hid (fun W hb => by rw [← F.out.1]; exact ans_var hvar habv hlt hb (TW1.out.b.trans (b3.mono TW1.out.b.size)) F.out.2)
    obtain ⟨p0, p1, p2, p3, p4⟩ := tw3.r.five
    obtain ⟨f0, f1, f2, f3, f4⟩ := tw3.r.fiveF
    clear hvar habv b3 tw3 hlt
    go_wp2_with fail
    (try simp only [Exit.inBlock, Exit.then])
    refine bodyPost_ret (v := .tuple #[.agg #[.int .i64 (asD D 1).size, .slice v'.pE v'.nE v'.cE, .slice v'.pW v'.nW v'.cW, .int .i64 (asD D 1).fuse, .bool (asD D 1).down], .int .i64 1]) ?_ rfl ?_
    · rw [results_cell_tmp rfl]
      go_simp
    · refine HFin.out _ ?_
      repeat (first | refine Bar.setCell ?_ (by first | exact Or.inl rfl | exact Or.inr rfl) _ | exact Bar.refl _ _)
  have HNm : Hid (∀ W, Calls Try.prog 33 #[.string to] W fun e w' => e = .returned (.bool true) ∧ W = w') := Lib.hid (fun W => by have := rNamed_any to W h1; rw [c1] at this; exact this)
  have hfp := fnd_pos hso fr
  obtain ⟨p, hp⟩ : ∃ p, p = fnd D.E fr := ⟨_, rfl⟩
  have HFi : Hid (∀ W, Below W2.heap.size W2 W → Calls Try.prog 34 #[.slice v.pE v.nE v.cE, .string fr] W fun e w' => e = .returned (.int .i64 p) ∧ Below W.heap.size W w') := Lib.hid (fun W hb => by rw [hp]; exact rFind_any D.E v.pE v.nE v.cE fr W HV.out.hE (HV.out.below hb).E HV.out.l1)
  rw [← hp] at hfp
  clear hp
  by_cases c2 : isAt D.E fr = true
  case neg =>
    have t2 : decide (p < 0) = true := decide_eq_true (by rw [hfp, if_neg c2]; omega)
    have F : Hid (asD D 3 = movD D.size D.E D.W D.fuse D.down fr to ∧ (3 : Int) = movE D.E fr to) := Lib.hid ⟨by
      rw [as_no hy]
      unfold movD
      rw [if_neg (fun hh => c2 hh.2.1)], by unfold movE; rw [if_pos c1, if_neg c2]⟩
    clear c1 c2 hy hso hlE hlW HCp hfp
    go_enter Try.func11, Try.ntmps11
    go_wp2_with fail
    rw [← HW2.out]
    refine (HPw.out _ (Below.refl _ _)).mono ?_
    rintro e w1 ⟨rfl, b1⟩
    have TW1 := Lib.hid (TW.out.below b1)
    have HBC := Lib.hid b1
    obtain ⟨q0, q1, q2, q3, q4⟩ := TW1.out.d.five
    clear b1
    go_wp2_with fail
    refine (HNm.out _).mono ?_
    rintro e w1x ⟨rfl, rfl⟩
    go_wp2_with fail
    refine (HFi.out _ HBC.out).mono ?_
    rintro e w2 ⟨rfl, b2⟩
    have TW2 := Lib.hid (TW1.out.below b2)
    have HBC2 := Lib.hid (HBC.out.trans (b2.mono HBC.out.size))
    obtain ⟨q0, q1, q2, q3, q4⟩ := TW2.out.d.five
    clear b2
    go_wp2_with fail
    have HBC := Lib.hid HBC2.out
    refine (HAs.out 3 _ HBC.out).mono ?_
    rintro e w3 ⟨v', rfl, hvar, habv, b3⟩
    have tw3 := TW2.out.below b3
    have hlt := TW2.out.lt
    have HFin : Hid (∀ W, Bar w3 W (fun k => k = w.heap.size ∨ k = w.heap.size + 1) → AnsP w (movD D.size D.E D.W D.fuse D.down fr to) (movE D.E fr to) (.returned (.tuple #[.agg #[.int .i64 (asD D 3).size, .slice v'.pE v'.nE v'.cE, .slice v'.pW v'.nW v'.cW, .int .i64 (asD D 3).fuse, .bool (asD D 3).down], .int .i64 3])) W) := Lib.hid (fun W hb => by rw [← F.out.1]; exact ans_var hvar habv hlt hb (TW2.out.b.trans (b3.mono TW2.out.b.size)) F.out.2)
    obtain ⟨p0, p1, p2, p3, p4⟩ := tw3.r.five
    obtain ⟨f0, f1, f2, f3, f4⟩ := tw3.r.fiveF
    clear hvar habv b3 tw3 hlt
    go_wp2_with fail
    (try simp only [Exit.inBlock, Exit.then])
    refine bodyPost_ret (v := .tuple #[.agg #[.int .i64 (asD D 3).size, .slice v'.pE v'.nE v'.cE, .slice v'.pW v'.nW v'.cW, .int .i64 (asD D 3).fuse, .bool (asD D 3).down], .int .i64 3]) ?_ rfl ?_
    · rw [results_cell_tmp rfl]
      go_simp
    · refine HFin.out _ ?_
      repeat (first | refine Bar.setCell ?_ (by first | exact Or.inl rfl | exact Or.inr rfl) _ | exact Bar.refl _ _)
  obtain ⟨q, hq⟩ : ∃ q, q = pos D.E fr := ⟨_, rfl⟩
  have hpe : p = (q : Int) := by rw [hfp, if_pos c2, hq]
  have hqE : q < D.E.length := by rw [hq]; exact isAt_lt c2
  subst hpe
  have t2 : decide ((q : Int) < 0) = false := decide_eq_false (by omega)
  clear hfp
  by_cases c3 : nmEq to fr = true
  case pos =>
    have hft : fr = to := nmEq_iff.1 c3
    have t3 : (fr.toList == to.toList) = true := by rw [hft]; simp
    have F : Hid (asD D 0 = movD D.size D.E D.W D.fuse D.down fr to ∧ (0 : Int) = movE D.E fr to) := Lib.hid ⟨by
      rw [as_no hy]
      unfold movD
      rw [if_neg (fun hh => by rw [c3] at hh; exact absurd hh.2.2 (by simp))], by unfold movE; rw [if_pos c1, if_pos c2]⟩
    clear c1 c2 c3 hft hy hso hlE hlW HCp hq hqE
    go_enter Try.func11, Try.ntmps11
    go_wp2_with fail
    rw [← HW2.out]
    refine (HPw.out _ (Below.refl _ _)).mono ?_
    rintro e w1 ⟨rfl, b1⟩
    have TW1 := Lib.hid (TW.out.below b1)
    have HBC := Lib.hid b1
    obtain ⟨q0, q1, q2, q3, q4⟩ := TW1.out.d.five
    clear b1
    go_wp2_with fail
    refine (HNm.out _).mono ?_
    rintro e w1x ⟨rfl, rfl⟩
    go_wp2_with fail
    refine (HFi.out _ HBC.out).mono ?_
    rintro e w2 ⟨rfl, b2⟩
    have TW2 := Lib.hid (TW1.out.below b2)
    have HBC2 := Lib.hid (HBC.out.trans (b2.mono HBC.out.size))
    obtain ⟨q0, q1, q2, q3, q4⟩ := TW2.out.d.five
    clear b2
    go_wp2_with fail
    have HBC := Lib.hid HBC2.out
    refine (HAs.out 0 _ HBC.out).mono ?_
    rintro e w3 ⟨v', rfl, hvar, habv, b3⟩
    have tw3 := TW2.out.below b3
    have hlt := TW2.out.lt
    have HFin : Hid (∀ W, Bar w3 W (fun k => k = w.heap.size ∨ k = w.heap.size + 1) → AnsP w (movD D.size D.E D.W D.fuse D.down fr to) (movE D.E fr to) (.returned (.tuple #[.agg #[.int .i64 (asD D 0).size, .slice v'.pE v'.nE v'.cE, .slice v'.pW v'.nW v'.cW, .int .i64 (asD D 0).fuse, .bool (asD D 0).down], .int .i64 0])) W) := Lib.hid (fun W hb => by rw [← F.out.1]; exact ans_var hvar habv hlt hb (TW2.out.b.trans (b3.mono TW2.out.b.size)) F.out.2)
    obtain ⟨p0, p1, p2, p3, p4⟩ := tw3.r.five
    obtain ⟨f0, f1, f2, f3, f4⟩ := tw3.r.fiveF
    clear hvar habv b3 tw3 hlt
    go_wp2_with fail
    (try simp only [Exit.inBlock, Exit.then])
    refine bodyPost_ret (v := .tuple #[.agg #[.int .i64 (asD D 0).size, .slice v'.pE v'.nE v'.cE, .slice v'.pW v'.nW v'.cW, .int .i64 (asD D 0).fuse, .bool (asD D 0).down], .int .i64 0]) ?_ rfl ?_
    · rw [results_cell_tmp rfl]
      go_simp
    · refine HFin.out _ ?_
      repeat (first | refine Bar.setCell ?_ (by first | exact Or.inl rfl | exact Or.inr rfl) _ | exact Bar.refl _ _)
  have c3' : nmEq to fr = false := Bool.eq_false_iff.2 c3
  have t3 : (fr.toList == to.toList) = false := c3'
  have hne : ¬ fr = to := fun e => c3 (nmEq_iff.2 e)
  have HAT : Hid (∀ W, Below W2.heap.size W2 W → ∃ g o, v.pE = some ⟨g, o, none⟩ ∧ W.cell? ⟨g, o + q * 2, none⟩ = some (.string (D.E.getD q default).1) ∧ W.cell? ⟨g, o + q * 2 + 1, none⟩ = some (.string (D.E.getD q default).2) ∧ (D.E.getD q default).2.size ≤ 140737488355328) := Lib.hid (fun W hb => by
    obtain ⟨g, o, e, _, f0, f1, _, s4⟩ := (HV.out.below hb).E q hqE
    exact ⟨g, o, e, f0, f1, s4⟩)
  obtain ⟨yy, hyy⟩ : ∃ yy, yy = (D.E.getD q default).2 := ⟨_, rfl⟩
  obtain ⟨xx, hxx⟩ : ∃ xx, xx = (D.E.getD q default).1 := ⟨_, rfl⟩
  rw [← hyy, ← hxx] at HAT
  have m3 : (0 : Int) ≤ (q : Int) := by omega
  have m4 : (q : Int) < (v.nE : Int) := by have := HV.out.hE; omega
  have HD : Hid (movD D.size D.E D.W D.fuse D.down fr to = ⟨D.size, insE (keptEn (nmEq fr) (keptEn (nmEq to) D.E)) (pos (keptEn (nmEq fr) (keptEn (nmEq to) D.E)) to) to yy, mvL D.W fr to, D.fuse, D.down⟩ ∧ (0 : Int) = movE D.E fr to) := Lib.hid ⟨by
    have e1 : keptEn (nmEq fr) (keptEn (nmEq to) D.E) = mvE2 D.E fr to := cut_kept (hso.sub (mvE1_sub D.E to)) (mvE1_at hso c2 c3')
    unfold movD
    rw [if_pos ⟨c1, c2, c3'⟩, e1, hyy, hq, ← mv_data hso c2 c3']
    rfl, by unfold movE; rw [if_pos c1, if_pos c2]⟩
  have HNE := Lib.hid hne; have HlE := Lib.hid hlE; have HlW := Lib.hid hlW; have H1 := Lib.hid h1
  have HWL : Hid (v.nW = D.W.length) := Lib.hid HV.out.hW
  have HWA : Hid (∀ W, Below W2.heap.size W2 W → WrsAt W v.pW D.W) := Lib.hid (fun W hb => (HV.out.below hb).W)
  have hnw : v.nW ≤ 16384 := by rw [HWL.out]; exact hlW
  clear c1 c2 c3 c3' hne hy hso hlE hlW hq hqE hyy hxx HAs
  go_enter Try.func11, Try.ntmps11
  go_wp2_with fail
  rw [← HW2.out]
  refine (HPw.out _ (Below.refl _ _)).mono ?_
  rintro e w1 ⟨rfl, b1⟩
  have TW1 := Lib.hid (TW.out.below b1)
  have HBC := Lib.hid b1
  obtain ⟨q0, q1, q2, q3, q4⟩ := TW1.out.d.five
  clear b1
  go_wp2_with fail
  refine (HNm.out _).mono ?_
  rintro e w1x ⟨rfl, rfl⟩
  go_wp2_with fail
  refine (HFi.out _ HBC.out).mono ?_
  rintro e w2 ⟨rfl, b2⟩
  have TW2 := Lib.hid (TW1.out.below b2)
  have HBC2 := Lib.hid (HBC.out.trans (b2.mono HBC.out.size))
  obtain ⟨q0, q1, q2, q3, q4⟩ := TW2.out.d.five
  obtain ⟨ga, oa, hpE, f0, f1, s4⟩ := HAT.out w2 HBC2.out
  rw [hpE] at q1
  obtain ⟨W3, hW3⟩ : ∃ W3, W3 = w2.alloc (.cells #[.string xx, .string yy] 58) := ⟨_, rfl⟩
  have t3a : Below w2.heap.size w2 W3 := by rw [hW3]; exact (Below.refl _ _).alloc (Nat.le_refl _) _
  have hlt2 := TW2.out.lt
  have lw2 : w.heap.size < w2.heap.size := by omega
  have MI : Hid (MvI w W3 D v w2.heap.size xx yy [] none 0 0) := Lib.hid ⟨TW2.out.below t3a, by rw [hW3]; exact Boxed.new w2 #[.string xx, .string yy] 58, World.ownsRow_nil _ _ _ _, fun i hi => absurd hi (by simp), hlt2, by rw [hW3]; simp⟩
  have HB3 : Hid (Below W2.heap.size W2 W3) := Lib.hid (HBC2.out.trans (t3a.mono HBC2.out.size))
  have HW3 := Lib.hid hW3; have S4 := Lib.hid s4
  clear b2 hpE s4 hW3 t3a hlt2
  go_wp2_with fail
  rw [← HW3.out]
  obtain ⟨xb, hxb⟩ : ∃ xb, xb = w2.heap.size := ⟨_, rfl⟩
  have HXb : Hid (W2.heap.size ≤ xb) := Lib.hid (by rw [hxb]; exact HBC2.out.size)
  rw [← hxb] at MI ⊢
  clear HW3 hxb q0 q1 q2 q3 q4 f0 f1 lw2
  go_loopw [11, 13, 56] (fun a _ i wr => ∃ (k : Nat) (p : Option Addr) (m c : Nat), k ≤ v.nW ∧ i = .int .i64 k ∧ a = .slice p m c ∧ MvI w wr D v xb xx yy (mvL (D.W.take k) fr to) p m c ∧ Below W2.heap.size W2 wr) (fun _ _ i _ => v.nW - (intOf i).toNat)
  case atStart => exact ⟨0, none, 0, 0, by omega, rfl, rfl, MI.out, HB3.out⟩
  case round =>
    obtain ⟨k, p, m, c, hk, rfl, rfl, hmi, hbW⟩ := hrel
    by_cases hlt : k < v.nW
    · have hkL : k < D.W.length := by rw [← HWL.out]; exact hlt
      obtain ⟨gw, ow, hpW, hgw, d0, d1, d2, s1, s2⟩ := (HWA.out _ hbW) k hkL
      have hst := mvL_put D.W fr to k hkL
      obtain ⟨x, hx⟩ : ∃ x, x = (D.W.getD k default).1 := ⟨_, rfl⟩
      obtain ⟨cc, hcc⟩ : ∃ y, y = (D.W.getD k default).2.1 := ⟨_, rfl⟩
      obtain ⟨y, hy2⟩ : ∃ y, y = (D.W.getD k default).2.2 := ⟨_, rfl⟩
      have hxe : D.W.getD k default = (x, cc, y) := by rw [hx, hcc, hy2]
      rw [← hx] at d0 s1; rw [← hcc] at d1; rw [← hy2] at d2 s2
      rw [hxe] at hst
      simp only at hst
      have m0 : (0 : Int) ≤ (k : Int) := by omega
      have m1 : (k : Int) < (v.nW : Int) := by omega
      have hmb : m ≤ 1000000 := by
        have e1 := hmi.row.1
        rw [wRow_length] at e1
        have e2 := mvL_length (D.W.take k) fr to
        rw [List.length_take] at e2
        have := HlW.out
        omega
      have hle := hmi.le
      have hgx := hmi.ge
      have HST := Lib.hid hst; have HMI := Lib.hid hmi; have HBW := Lib.hid hbW; have HMB := Lib.hid hmb
      have S1 := Lib.hid s1; have S2 := Lib.hid s2
      generalize v.pW = pW at d0 d1 d2 hpW
      subst hpW
      have HAl : Hid (∀ u1 u2 u3, Below wr.heap.size wr (wr.alloc (.cells #[u1, u2, u3] 63))) := Lib.hid (fun u1 u2 u3 => (Below.refl _ _).alloc (Nat.le_refl _) _)
      clear hst hxe hx hcc hy2 hmi hbW hmb s1 s2 hkL
      by_cases he : x = to
      · have t1 : (x.toList == to.toList) = true := by rw [he]; simp
        have HNx : Hid (mvL (D.W.take (k + 1)) fr to = mvL (D.W.take k) fr to) := Lib.hid (by rw [HST.out, if_pos (nmEq_iff.2 he)])
        clear he
        go_wp2_with fail
        go_roundw
        case rel => exact ⟨k + 1, p, m, c, by omega, by go_num, rfl, by rw [HNx.out]; exact HMI.out.below (HAl.out _ _ _), HBW.out.trans ((HAl.out _ _ _).mono HBW.out.size)⟩
        case measure => simp [intOf]; omega
      · have t1 : (x.toList == to.toList) = false := by rw [beq_eq_false_iff_ne]; exact fun h => he (toList_inj h)
        by_cases hef : x = fr
        · have t5 : (x.toList == fr.toList) = true := by rw [hef]; simp
          have HNx : Hid (mvL (D.W.take (k + 1)) fr to = mvL (D.W.take k) fr to ++ [(to, cc, y)]) := Lib.hid (by
            rw [HST.out, if_neg (fun h => he (nmEq_iff.1 h))]
            unfold renW
            simp only
            rw [if_pos t5])
          have HMA := Lib.hid (HMI.out.below (HAl.out (.string to) (.int .i64 cc) (.string y)))
          have HRow : Hid ((wr.alloc (.cells #[.string to, .int .i64 cc, .string y] 63)).ownsRow (xb + 1) 63 3 (.slice p m c) m (wRow (mvL (D.W.take k) fr to))) := Lib.hid HMA.out.row
          have HSx : Hid ((wr.alloc (.cells #[.string to, .int .i64 cc, .string y] 63)).heap.size = wr.heap.size + 1) := Lib.hid (by simp)
          have HS3 : Hid (xb + 1 ≤ (wr.alloc (.cells #[.string to, .int .i64 cc, .string y] 63)).heap.size) := Lib.hid HMA.out.le
          have ln : ¬ (wr.heap.size = xb) := by omega
          clear he hef
          go_wp2_with (at_builtin; refine Rw.push rfl _ _ 23 rfl (xb + 1) 63 i1 (.agg #[.string ⟨#[]⟩, .int .i64 0, .string ⟨#[]⟩]) 3 40 Try.underlying23 hi1 hy0 hy1 hy2 rfl (by decide) (.slice p m c) m (wRow (mvL (D.W.take k) fr to)) rfl HRow.out [.string to, .int .i64 cc, .string y] (by rw [HSx.out]; rfl) rfl rfl (by have := HMB.out; omega) (by decide) HS3.out ?_)
          intro g cap w5 hown5 hgr hgg hlt5 hb5
          have LN := Lib.hid (HMA.out.push hown5 hb5 H1.out S2.out)
          have HB5 := Lib.hid ((HBW.out.trans ((HAl.out (.string to) (.int .i64 cc) (.string y)).mono HBW.out.size)).trans (hb5.mono (by have := HXb.out; omega)))
          clear hown5 hgr hgg hlt5 hb5 HRow
          go_wp2_with fail
          go_roundw
          case rel => exact ⟨k + 1, _, _, _, by omega, by go_num, rfl, by rw [HNx.out]; exact LN.out, HB5.out⟩
          case measure => simp [intOf]; omega
        · have t5 : (x.toList == fr.toList) = false := by rw [beq_eq_false_iff_ne]; exact fun h => hef (toList_inj h)
          have HNx : Hid (mvL (D.W.take (k + 1)) fr to = mvL (D.W.take k) fr to ++ [(x, cc, y)]) := Lib.hid (by
            rw [HST.out, if_neg (fun h => he (nmEq_iff.1 h))]
            unfold renW
            simp only
            rw [if_neg (by rw [t5]; simp)])
          have HMA := Lib.hid (HMI.out.below (HAl.out (.string x) (.int .i64 cc) (.string y)))
          have HRow : Hid ((wr.alloc (.cells #[.string x, .int .i64 cc, .string y] 63)).ownsRow (xb + 1) 63 3 (.slice p m c) m (wRow (mvL (D.W.take k) fr to))) := Lib.hid HMA.out.row
          have HSx : Hid ((wr.alloc (.cells #[.string x, .int .i64 cc, .string y] 63)).heap.size = wr.heap.size + 1) := Lib.hid (by simp)
          have HS3 : Hid (xb + 1 ≤ (wr.alloc (.cells #[.string x, .int .i64 cc, .string y] 63)).heap.size) := Lib.hid HMA.out.le
          have ln : ¬ (wr.heap.size = xb) := by omega
          clear he hef
          go_wp2_with (at_builtin; refine Rw.push rfl _ _ 23 rfl (xb + 1) 63 i1 (.agg #[.string ⟨#[]⟩, .int .i64 0, .string ⟨#[]⟩]) 3 40 Try.underlying23 hi1 hy0 hy1 hy2 rfl (by decide) (.slice p m c) m (wRow (mvL (D.W.take k) fr to)) rfl HRow.out [.string x, .int .i64 cc, .string y] (by rw [HSx.out]; rfl) rfl rfl (by have := HMB.out; omega) (by decide) HS3.out ?_)
          intro g cap w5 hown5 hgr hgg hlt5 hb5
          have LN := Lib.hid (HMA.out.push hown5 hb5 S1.out S2.out)
          have HB5 := Lib.hid ((HBW.out.trans ((HAl.out (.string x) (.int .i64 cc) (.string y)).mono HBW.out.size)).trans (hb5.mono (by have := HXb.out; omega)))
          clear hown5 hgr hgg hlt5 hb5 HRow
          go_wp2_with fail
          go_roundw
          case rel => exact ⟨k + 1, _, _, _, by omega, by go_num, rfl, by rw [HNx.out]; exact LN.out, HB5.out⟩
          case measure => simp [intOf]; omega
    · have hke : k = D.W.length := by rw [← HWL.out]; omega
      rw [hke, List.take_length] at hmi
      have HMI := Lib.hid hmi; have HBW := Lib.hid hbW
      obtain ⟨q0, q1, q2, q3, q4⟩ := hmi.two.d.five
      have t : decide (k < v.nW) = false := decide_eq_false hlt
      clear hmi hbW hke
      go_wp2_with fail
      refine (HCp.out _ HBW.out).mono ?_
      rintro e wa ⟨ua, rfl, hoa, ba⟩
      have MA := Lib.hid (HMI.out.below ba)
      have hla : ua.nE ≤ 1000000 ∧ ua.nW ≤ 1000000 := ⟨by rw [hoa.hE]; exact HlE.out, by rw [hoa.hW]; have := HlW.out; omega⟩
      have HWa := Lib.hid (rwithout_any D ua to wa hoa.at hla.1 hla.2)
      clear hoa ba hla
      go_wp2_with fail
      refine HWa.out.mono ?_
      rintro e wb ⟨ub, rfl, hob, bb⟩
      have MB := Lib.hid (MA.out.below bb)
      have hlb : ub.nE ≤ 1000000 ∧ ub.nW ≤ 1000000 := ⟨by
        rw [hob.hE]
        have e1 : (keptEn (nmEq to) D.E).length ≤ D.E.length := List.length_filter_le _ _
        have := HlE.out
        show (keptEn (nmEq to) D.E).length ≤ _
        omega, by
        rw [hob.hW]
        have e1 : (keptWn (nmEq to) D.W).length ≤ D.W.length := List.length_filter_le _ _
        have := HlW.out
        show (keptWn (nmEq to) D.W).length ≤ _
        omega⟩
      have HWb := Lib.hid (rwithout_any (woD D to) ub fr wb hob.at hlb.1 hlb.2)
      clear hob bb hlb
      go_wp2_with fail
      refine HWb.out.mono ?_
      rintro e wc ⟨uc, hec, hoc, bc⟩
      have hec2 : e = .returned (.agg #[.int .i64 D.size, .slice uc.pE uc.nE uc.cE, .slice uc.pW uc.nW uc.cW, .int .i64 D.fuse, .bool D.down]) := hec
      clear hec
      subst hec2
      obtain ⟨S, hS⟩ : ∃ S, S = wc.alloc (.cells #[.int .i64 D.size, .slice uc.pE uc.nE uc.cE, .slice uc.pW uc.nW uc.cW, .int .i64 D.fuse, .bool D.down] 25) := ⟨_, rfl⟩
      have tS : Below wc.heap.size wc S := by rw [hS]; exact (Below.refl _ _).alloc (Nat.le_refl _) _
      have MS := Lib.hid ((MB.out.below bc).below tS)
      have ob : Boxed S wc.heap.size [.int .i64 D.size, .slice uc.pE uc.nE uc.cE, .slice uc.pW uc.nW uc.cW, .int .i64 D.fuse, .bool D.down] := by rw [hS]; exact Boxed.new wc #[.int .i64 D.size, .slice uc.pE uc.nE uc.cE, .slice uc.pW uc.nW uc.cW, .int .i64 D.fuse, .bool D.down] 25
      have OB := Lib.hid ob
      have hocS := hoc.below tS
      have hlc : uc.nE ≤ 1000000 := by
        rw [hoc.hE]
        have e1 : (keptEn (nmEq fr) (keptEn (nmEq to) D.E)).length ≤ (keptEn (nmEq to) D.E).length := List.length_filter_le _ _
        have e2 : (keptEn (nmEq to) D.E).length ≤ D.E.length := List.length_filter_le _ _
        have := HlE.out
        show (keptEn (nmEq fr) (keptEn (nmEq to) D.E)).length ≤ _
        omega
      have HWi : Hid (Calls Try.prog 36 #[.slice uc.pE uc.nE uc.cE, .agg #[.string to, .string yy]] S (WtP S (keptEn (nmEq fr) (keptEn (nmEq to) D.E)) to yy)) := Lib.hid (rwith_any _ uc.pE uc.nE uc.cE wb.heap.size to yy S hocS.hE hocS.E hocS.okE hlc)
      have HOC := Lib.hid hocS
      have HLC := Lib.hid hlc
      have HSx : Hid (wb.heap.size ≤ wc.heap.size) := Lib.hid bc.size
      have HMle := Lib.hid (MB.out.below bc).le
      have HS := Lib.hid hS
      have x0 : wc.cell? ⟨xb, 0, none⟩ = some (.string xx) := (MB.out.below bc).x.cell 0 (by simp)
      have x1 : wc.cell? ⟨xb, 1, none⟩ = some (.string yy) := (MB.out.below bc).x.cell 1 (by simp)
      have lx : xb < wc.heap.size := (MB.out.below bc).x.lt
      have nx : ¬ (xb = wc.heap.size) := by omega
      have nx2 : ¬ (wc.heap.size = xb) := by omega
      clear hoc bc tS ob hocS hlc hS
      go_wp2_with fail
      rw [← HS.out]
      refine HWi.out.mono ?_
      rintro e wd ⟨g, cap, rfl, how, bd⟩
      have od := OB.out.below bd
      have MD := Lib.hid (MS.out.below bd)
      have HOD : Hid (∀ W, Bar wd W (fun k => k = wc.heap.size ∨ k = w.heap.size + 1) → AnsP w (movD D.size D.E D.W D.fuse D.down fr to) (movE D.E fr to) (.returned (.tuple #[.agg #[.int .i64 D.size, .slice (some ⟨g, 0, none⟩) ((keptEn (nmEq fr) (keptEn (nmEq to) D.E)).length + 1) cap, .slice p m c, .int .i64 D.fuse, .bool D.down], .int .i64 0])) W) := Lib.hid (fun W hb => by
        have hM := MS.out.below bd
        have hlen : (insE (keptEn (nmEq fr) (keptEn (nmEq to) D.E)) (pos (keptEn (nmEq fr) (keptEn (nmEq to) D.E)) to) to yy).length = (keptEn (nmEq fr) (keptEn (nmEq to) D.E)).length + 1 := insE_length _ _ _ _ (pos_le _ _)
        have hle1 := HLC.out
        have hEl := HOC.out.hE
        have hcb := OB.out.lt
        have hge := hM.ge
        have hxm := HMle.out
        have hmlen := hM.row.1
        rw [wRow_length] at hmlen
        have hml2 := mvL_length D.W fr to
        have hEl2 : uc.nE = (keptEn (nmEq fr) (keptEn (nmEq to) D.E)).length := hEl
        have hrowE : W.ownsRow (w.heap.size + 2) 58 2 (.slice (some ⟨g, 0, none⟩) ((keptEn (nmEq fr) (keptEn (nmEq to) D.E)).length + 1) cap) ((keptEn (nmEq fr) (keptEn (nmEq to) D.E)).length + 1) (eRow (insE (keptEn (nmEq fr) (keptEn (nmEq to) D.E)) (pos (keptEn (nmEq fr) (keptEn (nmEq to) D.E)) to) to yy)) := own_base (own_bar how hb (fun k e hk => by
          have h3 := (own_aboveV how ⟨g, 0, none⟩ rfl).1
          have h4 : S.heap.size + 1 ≤ g := h3
          simp [Value.ownBlock] at e
          omega)) (by omega)
        have hrowW : W.ownsRow (w.heap.size + 2) 63 3 (.slice p m c) m (wRow (mvL D.W fr to)) := own_base (own_bar hM.row hb (fun k e hk => by
          obtain ⟨b, hb2, hbk⟩ := blk_of e
          have h3 := (own_aboveV (MB.out.row) b hb2)
          have h4 := (own_aboveV MB.out.row b hb2).2
          have h5 := HSx.out
          rcases hk with hk | hk
          · omega
          · omega)) (by omega)
        have hlim : Lim ⟨D.size, insE (keptEn (nmEq fr) (keptEn (nmEq to) D.E)) (pos (keptEn (nmEq fr) (keptEn (nmEq to) D.E)) to) to yy, mvL D.W fr to, D.fuse, D.down⟩ := ⟨by simp only; rw [hlen]; omega, by have := HlW.out; simp only; omega, HLf⟩
        have hoW : OwnD W (w.heap.size + 2) ⟨D.size, insE (keptEn (nmEq fr) (keptEn (nmEq to) D.E)) (pos (keptEn (nmEq fr) (keptEn (nmEq to) D.E)) to) to yy, mvL D.W fr to, D.fuse, D.down⟩ ⟨some ⟨g, 0, none⟩, (keptEn (nmEq fr) (keptEn (nmEq to) D.E)).length + 1, cap, p, m, c⟩ := ⟨hlen.symm, hrowE, by show m = (mvL D.W fr to).length; omega, hrowW, eok_ins HOC.out.okE _ H1.out S4.out, hM.ok, hlim, fun a b ea eb => by
          cases ea
          have h3 := (own_aboveV how ⟨g, 0, none⟩ rfl).1
          have h4 : S.heap.size + 1 ≤ g := h3
          have h5 := (own_aboveV MB.out.row b eb).2
          have h6 := HSx.out
          show g ≠ b.block
          omega⟩
        have hwb : Below w.heap.size w W := hM.two.b.trans (hb.below (B := w.heap.size) (fun k _ e => by omega) hM.two.b.size)
        rw [HD.out.1]
        exact ans_own hoW (Nat.le_refl _) (Bar.refl W _) hwb HD.out.2)
      have hge := MD.out.ge
      have hml := HMle.out
      have nr : ¬ (w.heap.size + 1 = wc.heap.size) := by omega
      have nr2 : ¬ (wc.heap.size = w.heap.size + 1) := by omega
      obtain ⟨o0, o1, o2, o3, o4⟩ := od.five
      obtain ⟨f0, f1, f2, f3, f4⟩ := od.fiveF
      obtain ⟨r0, r1, r2, r3, r4⟩ := MD.out.two.r.five
      obtain ⟨k0, k1, k2, k3, k4⟩ := MD.out.two.r.fiveF
      clear how bd od q0 q1 q2 q3 q4 x0 x1 lx nx nx2
      go_wp2_with fail
      (try simp only [Exit.inBlock, Exit.then])
      refine bodyPost_ret (v := .tuple #[.agg #[.int .i64 D.size, .slice (some ⟨g, 0, none⟩) ((keptEn (nmEq fr) (keptEn (nmEq to) D.E)).length + 1) cap, .slice p m c, .int .i64 D.fuse, .bool D.down], .int .i64 0]) ?_ rfl ?_
      · rw [results_cell_tmp rfl]
        go_simp
      · refine HOD.out _ ?_
        repeat (first | refine Bar.setCell ?_ (by first | exact Or.inl rfl | exact Or.inr rfl) _ | exact Bar.refl _ _)
end Go.Proofs.Ytejmbbhbimgheaa.Dk
