/- slices.SortedFunc at skew's triples. -/
import Derived.Test.YtonlbcibfbbpgaaSkPC
namespace Go.Proofs.Ytonlbcibfbbpgaa.Sk
open Go.RowKit Go.Lib Go.Sort Rw Ls Od _root_.Go.Proofs.Ytonlbcibfbbpgaa.Nm

theorem flatT_get (L : List T3) (t : Nat) (ht : t < L.length * 3) : (flatK encT 3 L.toArray)[t]! = (fT L).getD t (.bool false) := by
  rw [get_flatK _ _ _ _ (by simpa using ht)]
  have h1 : t / 3 < L.length := by omega
  have h2 := fT_at L (t / 3) (t % 3) h1 (by omega)
  rw [show 3 * (t / 3) + t % 3 = t by omega] at h2
  rw [List.getD_eq_getElem?_getD, h2]
  have h3 : t % 3 < (encT L[t / 3]).length := by show t % 3 < 3; omega
  rw [List.getElem?_eq_getElem h3]
  have e : L.toArray[t / 3]! = L[t / 3] := by simp [h1]
  rw [e]
  simp [h3]
/-- a row of triples that may be written -/
def RowT (w : World) (g : Nat) (M : List T3) : Prop := g < w.heap.size ∧ HoldsK encT 3 w g 0 M.toArray
theorem rowT_cell {w : World} {g : Nat} {M : List T3} (h : RowT w g M) {t : Nat} (ht : t < (fT M).length) : w.cell? ⟨g, t, none⟩ = some ((fT M).getD t (.bool false)) ∧ w.frozen? ⟨g, t, none⟩ = false := by
  rw [fT_length] at ht
  have := h.2 t (by rw [size_flatK]; simp; omega)
  rw [Nat.zero_add, flatT_get M t (by omega)] at this
  exact this
theorem rowT_rd {w : World} {g : Nat} {M : List T3} (h : RowT w g M) : Rd w (some ⟨g, 0, none⟩) (fT M) := fun i hi => by
  refine ⟨_, rfl, h.1, ?_⟩
  rw [Addr.add_lit, Nat.zero_add]
  exact (rowT_cell h hi).1
theorem rowT_of {w : World} {g : Nat} {M : List T3} (hl : g < w.heap.size) (h : ∀ t, t < (fT M).length → w.cell? ⟨g, t, none⟩ = some ((fT M).getD t (.bool false)) ∧ w.frozen? ⟨g, t, none⟩ = false) : RowT w g M :=
  ⟨hl, fun t ht => by
    have h1 : t < M.length * 3 := by rw [size_flatK] at ht; simpa using ht
    have := h t (by rw [fT_length]; omega)
    rw [Nat.zero_add, flatT_get M t h1]
    exact this⟩
theorem rowT_own {w : World} {B g cap n : Nat} {e : TypeId} {M : List T3} (h : w.ownsRow B e 3 (.slice (some ⟨g, 0, none⟩) n cap) n (fT M)) : RowT w g M :=
  rowT_of (h.lt g rfl).2 (fun t ht => ⟨by rw [World.ownsRow.cellAt h t (by have := h.1; omega), List.getD_eq_getElem?_getD, List.getElem?_eq_getElem ht]; rfl, h.frozenAt t⟩)
theorem rowT_below {w w' : World} {g : Nat} {M : List T3} (h : RowT w g M) (hb : RowKit.Below w.heap.size w w') : RowT w' g M :=
  rowT_of (Nat.lt_of_lt_of_le h.1 hb.size) (fun t ht => by
    obtain ⟨h1, h2⟩ := rowT_cell h ht
    have hbl := hb.block g h.1
    refine ⟨?_, ?_⟩
    · unfold World.cell? at h1 ⊢; rw [hbl]; exact h1
    · unfold World.frozen? at h2 ⊢; rw [hbl]; exact h2)
/-- the order of the sort -/
theorem ltT (x y : T3) : ltOf (fun x y : T3 => lexC (tl x) (tl y)) x y = lexL (tl x) (tl y) := by
  show decide (lexC (tl x) (tl y) < 0) = _
  unfold lexC
  by_cases h : lexL (tl x) (tl y) = true
  · rw [if_pos h, h]; rfl
  · rw [if_neg h]
    have h2 : lexL (tl x) (tl y) = false := by simpa using h
    rw [h2]
    by_cases h3 : lexL (tl y) (tl x) = true
    · rw [if_pos h3]; rfl
    · rw [if_neg h3]; rfl
theorem swoT : SWO (ltOf fun x y : T3 => lexC (tl x) (tl y)) where
  irrefl x := by rw [ltT]; exact lexL_same _
  trans x y z h1 h2 := by rw [ltT] at *; exact lexL_trans _ _ _ h1 h2
  ntrans x y z h1 h2 := by rw [ltT] at *; exact lexL_ntrans h1 h2
theorem tl_inj {x y : T3} (h : tl x = tl y) : x = y := by
  obtain ⟨a, b, c⟩ := x
  obtain ⟨d, e, f⟩ := y
  simp only [tl, List.cons.injEq, and_true] at h
  obtain ⟨rfl, rfl, rfl⟩ := h
  rfl
theorem sorted_listT (L : List T3) (d' : Array T3) (h1 : PermIn 0 L.length L.toArray d') (h2 : SortedIn (ltOf fun x y : T3 => lexC (tl x) (tl y)) 0 L.length d') : d'.toList.Perm L ∧ d'.toList.Pairwise (fun a b => lexL (tl b) (tl a) = false) := by
  obtain ⟨hs, _, hp⟩ := h1
  have hs2 : d'.size = L.length := by simpa using hs
  constructor
  · have e1 : d'.extract 0 L.length = d' := by rw [← hs2]; exact Array.extract_size
    have e2 : L.toArray.extract 0 L.length = L.toArray := by have := Array.extract_size (xs := L.toArray); simp
    rw [e1, e2] at hp
    simpa using hp
  · rw [List.pairwise_iff_getElem]
    intro i j hi hj hij
    have hj2 : j < d'.size := by simpa using hj
    have hi2 : i < d'.size := by simpa using hi
    have := h2 i j (Nat.zero_le _) hij (by omega)
    rw [ltT] at this
    simp only [getElem!_pos d' i hi2, getElem!_pos d' j hj2] at this
    simpa using this
theorem swT_below {w0 W : World} {blk B : Nat} {d : Array T3} (h : ∃ n os, W = sortWorldK encT 3 w0 blk 0 n d os) (hB : B ≤ blk) (hb : B ≤ w0.heap.size) : RowKit.Below B w0 W :=
  St.sw_below (enc := id) (d := flatK encT 3 d) (off := 0) h hB hb
/-- what SortedFunc answers -/
def SfP (w : World) (n : Nat) (L : List T3) (e : Ending) (w' : World) : Prop := ∃ (g cap : Nat) (M : List T3), e = .returned (.slice (some ⟨g, 0, none⟩) n cap) ∧ n ≤ cap ∧ M.Perm L ∧ M.Pairwise (fun a b => lexL (tl b) (tl a) = false) ∧ RowT w' g M ∧ w.heap.size ≤ g ∧ RowKit.Below w.heap.size w w'
set_option maxHeartbeats 2000000 in
theorem sortedf_any (L : List T3) (n Bs c : Nat) (p : Option Addr) (w : World) (hn : n = L.length) (h0 : 0 < n) (hl : n ≤ 1000000) (hBs : Bs < w.heap.size) (hc : w.cell? ⟨Bs, 0, none⟩ = some (.slice p n c)) (hr : Rd w p (fT L)) :
    Calls Try.prog 43 #[.func (.func 58) #[] #[.pointer (some ⟨Bs, 0, none⟩)], .func (.func 45) #[] #[]] w (SfP w n L) := by
  have hp : 0 < L.length → ∀ a, p = some a → a.block < w.heap.size := fun hh a e => by
    obtain ⟨a', e', hl', _⟩ := hr 0 (by rw [fT_length]; omega)
    rw [e] at e'; cases e'; exact hl'
  have C1 := Lib.hid (collect_any L (by omega) w.heap.size 58 #[.pointer (some ⟨Bs, 0, none⟩)] w (Nat.le_refl _) values_enters
    (fun W hW => values_stops Bs w.heap.size c p L (by omega) W hW.size (Nat.lt_of_lt_of_le hBs hW.size) hp (by rw [hW.cell (p := ⟨Bs, 0, none⟩) hBs, hc, hn]) (hr.below hW)))
  rw [← hn] at C1
  have HN := Lib.hid hn
  have eg : Hid (∀ args w, (callFunc 45 args).run Try.prog w = .ok (.enter 45 args) w) := Lib.hid (enters_of Try.func45 (by kernel_rfl) rfl)
  clear hr hc hp hn
  go_enter Try.func43, Try.ntmps43
  go_wp2_with fail
  refine C1.out.mono ?_
  rintro e w1 ⟨v, rfl, ho, hb⟩
  obtain ⟨n', rfl⟩ : ∃ m, n = m + 1 := ⟨n - 1, by omega⟩
  obtain ⟨g, cap, rfl⟩ := ownsRow_succ ho
  have hg := (ho.lt g rfl)
  have hcap : n' + 1 ≤ cap := by
    rcases ho.2 with ⟨h, _⟩ | ⟨g2, cap2, cur, h, _, _, hc2, _⟩
    · cases h
    · simp only [Value.slice.injEq] at h; rw [h.2.2]; exact hc2
  have hR := rowT_own ho
  have hsz : L.toArray.size = n' + 1 := by rw [HN.out]; simp
  have C2 := Try.slices_SortFunc_T encT (fun _ => rfl) encT_one (fun x y => lexC (tl x) (tl y)) swoT 45 #[] g 0 cap L.toArray w1 eg.out (fun m os dk _ x y => compare_any x y _) hR.2 hR.1 (by rw [hsz]; omega)
  rw [hsz] at C2
  have C3 := Lib.hid C2
  have HB := Lib.hid hb; have HG := Lib.hid hg; have HR := Lib.hid hR
  clear C2 hb hg hR ho C1
  go_wp2_with fail
  refine C3.out.mono ?_
  rintro e w2 ⟨rfl, d', m, os, h1, h2, h3⟩
  have F : Hid (SfP w (n' + 1) L (.returned (.slice (some ⟨g, 0, none⟩) (n' + 1) cap)) w2) := Lib.hid (by
    rw [HN.out] at h1 h2
    obtain ⟨k1, k2⟩ := sorted_listT L d' h1 h2
    have hs : d'.size = L.toArray.size := h1.1
    have hH : HoldsK encT 3 w2 g 0 d' := SWK.holds ⟨m, os, h3⟩ HR.out.1 HR.out.2 hs
    have hb2 := swT_below (B := w.heap.size) ⟨m, os, h3⟩ HG.out.1 HB.out.size
    refine ⟨g, cap, d'.toList, rfl, hcap, k1, k2, ⟨?_, by simpa using hH⟩, HG.out.1, HB.out.trans hb2⟩
    have := swT_below (B := 0) ⟨m, os, h3⟩ (Nat.zero_le _) (Nat.zero_le _)
    exact Nat.lt_of_lt_of_le HG.out.2 this.size)
  clear h1 h2 h3 C3
  go_wp2_with fail
  go_ret
  exact F.out
end Go.Proofs.Ytonlbcibfbbpgaa.Sk
