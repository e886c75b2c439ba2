/- The walk of order.Text. -/
import Derived.Test.YtfmnnbeegfjnaaaGreatOrdPBack
import Derived.Test.YtfmnnbeegfjnaaaGreatOrdPLeads
import Derived.Test.YtfmnnbeegfjnaaaGreatOrdPTxtM
import Derived.Test.YtfmnnbeegfjnaaaGreatOrdInsB
namespace Go.Proofs.YtfmnnbeegfjnaaaGreat.Od
open Go.RowKit Go.Lib Rw Ls _root_.Go.Proofs.YtfmnnbeegfjnaaaGreat.Nm
attribute [local go_sem] Oper.semAt_some wide_fn


/-- what a round of Text's loop leaves as it lay -/
def Keep2 (g rb : Nat) (W0 W : World) : Prop := W0.heap.size ≤ W.heap.size ∧ ∀ k, k < W0.heap.size → k ≠ g → k ≠ rb → W.heap[k]? = W0.heap[k]?
theorem Keep2.refl (g rb : Nat) (W : World) : Keep2 g rb W W := ⟨Nat.le_refl _, fun _ _ _ _ => rfl⟩
theorem keep2_own {β : Type} {g rb B : Nat} {W0 : World} (hB : W0.heap.size ≤ B) : OwnFrom B (fun (_ : β) W => Keep2 g rb W0 W) := fun _ W W' row hs hg hr =>
  ⟨Nat.le_trans hs.1 hg.size, fun k hk h1 h2 => (hg.block k (Nat.lt_of_lt_of_le hk hs.1) (fun e => by have := (hr k e.symm).1; omega)).trans (hs.2 k hk h1 h2)⟩
theorem setCell_grown0 (W : World) (a : Addr) (v : Value) : W.grownBy (W.setCell a v) (some a.block) :=
  ⟨rfl, rfl, rfl, (KeepsWalks.setCell W _ v).size, fun k _ hk => Below.heap_setCell _ _ _ k (fun e => hk (by rw [e]))⟩
theorem Keep2.put {g rb : Nat} {W0 W : World} (h : Keep2 g rb W0 W) (a : Addr) (v : Value) (ha : a.block = g ∨ a.block = rb) : Keep2 g rb W0 (W.setCell a v) :=
  ⟨Nat.le_trans h.1 (setCell_grown0 W a v).size, fun k hk h1 h2 => (Below.heap_setCell _ _ _ k (fun e => by rcases ha with ha | ha <;> omega)).trans (h.2 k hk h1 h2)⟩
theorem Keep2.boxed {g rb B : Nat} {W0 W : World} {t : TypeId} {v : Value} (h : Keep2 g rb W0 W) (hb : Boxed W0 B t v) (h1 : B ≠ g) (h2 : B ≠ rb) : Boxed W B t v := (h.2 B hb.lt h1 h2).trans hb
theorem Keep2.rd {g rb : Nat} {W0 W : World} {p : Option Addr} {xs : List Value} (h : Keep2 g rb W0 W) (hr : Rd W0 p xs) (hp : ∀ a, p = some a → a.block ≠ g ∧ a.block ≠ rb) : Rd W p xs := fun i hi => by
  obtain ⟨a, e, hl, hc⟩ := hr i hi
  obtain ⟨h1, h2⟩ := hp a e
  refine ⟨a, e, Nat.lt_of_lt_of_le hl h.1, ?_⟩
  rw [← hc]
  unfold World.cell?
  rw [add_block, h.2 _ hl h1 h2]
theorem three_below {B : Nat} {w0 w : World} (h : Below B w0 w) (hb : B ≤ w.heap.size) (o1 o2 o3 : Obj) : Below B w0 (((w.alloc o1).alloc o2).alloc o3) := ((h.alloc hb _).alloc (by simp; omega) _).alloc (by simp; omega) _
theorem three_boxes (w : World) (t1 t2 t3 : TypeId) (v1 v2 v3 : Value) : Boxed (((w.alloc (.cells #[v1] t1)).alloc (.cells #[v2] t2)).alloc (.cells #[v3] t3)) w.heap.size t1 v1 ∧ Boxed (((w.alloc (.cells #[v1] t1)).alloc (.cells #[v2] t2)).alloc (.cells #[v3] t3)) (w.heap.size + 1) t2 v2 ∧ Boxed (((w.alloc (.cells #[v1] t1)).alloc (.cells #[v2] t2)).alloc (.cells #[v3] t3)) (w.heap.size + 1 + 1) t3 v3 := by
  refine ⟨((Boxed.new w _ _).alloc _).alloc _, ?_, ?_⟩
  · have := (Boxed.new (w.alloc (.cells #[v1] t1)) t2 v2).alloc (.cells #[v3] t3)
    rwa [World.size_alloc] at this
  · have := Boxed.new ((w.alloc (.cells #[v1] t1)).alloc (.cells #[v2] t2)) t3 v3
    rwa [World.size_alloc, World.size_alloc] at this
theorem ptext_no (s : ByteArray) (p : Int) (w : World) (h : 4096 < s.size) :
    Calls Tryz.prog 21 #[.string s, .int .i64 p] w fun e w' => e = .returned (.tuple #[.string ⟨#[]⟩, .int .i64 1]) ∧ Below w.heap.size w w' := by
  have nz : (4096 : Int) < (s.size : Int) := by omega
  go_enter Tryz.func21, Tryz.ntmps21
  go_wp2_with fail
  obtain ⟨_, c4, c5⟩ := three_boxes w 3 9 25 (.int .i64 p) (.string ⟨#[]⟩) (.int .i64 1)
  refine bodyPost_ret (v := .tuple #[.string ⟨#[]⟩, .int .i64 1]) (by simp [results, Tryz.results21, go_sem, c4.cell, c5.cell]) rfl ?_
  exact ⟨rfl, three_below (Below.refl _ w) (Nat.le_refl _) _ _ _⟩
theorem ptext_bad (s : ByteArray) (p : Int) (w : World) (hl : s.size ≤ 4096) (h : p < 0 ∨ (s.size : Int) < p) :
    Calls Tryz.prog 21 #[.string s, .int .i64 p] w fun e w' => e = .returned (.tuple #[.string ⟨#[]⟩, .int .i64 7]) ∧ Below w.heap.size w w' := by
  have nz : ¬ (4096 : Int) < (s.size : Int) := by omega
  by_cases h1 : p < 0
  · have t1 : decide (p < 0) = true := decide_eq_true h1
    go_enter Tryz.func21, Tryz.ntmps21
    go_wp2_with fail
    obtain ⟨_, c4, c5⟩ := three_boxes w 3 9 25 (.int .i64 p) (.string ⟨#[]⟩) (.int .i64 7)
    refine bodyPost_ret (v := .tuple #[.string ⟨#[]⟩, .int .i64 7]) (by simp [results, Tryz.results21, go_sem, c4.cell, c5.cell]) rfl ?_
    exact ⟨rfl, three_below (Below.refl _ w) (Nat.le_refl _) _ _ _⟩
  · have t1 : decide (p < 0) = false := decide_eq_false h1
    have t2 : decide ((s.size : Int) < p) = true := decide_eq_true (by omega)
    go_enter Tryz.func21, Tryz.ntmps21
    go_wp2_with fail
    obtain ⟨_, c4, c5⟩ := three_boxes w 3 9 25 (.int .i64 p) (.string ⟨#[]⟩) (.int .i64 7)
    refine bodyPost_ret (v := .tuple #[.string ⟨#[]⟩, .int .i64 7]) (by simp [results, Tryz.results21, go_sem, c4.cell, c5.cell]) rfl ?_
    exact ⟨rfl, three_below (Below.refl _ w) (Nat.le_refl _) _ _ _⟩
theorem u8s_getD (L : List Nat) (k : Nat) (h : k < L.length) : (u8s L).getD k (.bool false) = .int .u8 ((L.getD k 0 : Nat) : Int) := by simp [u8s, List.getD_eq_getElem?_getD, h]
theorem u8s_set (L : List Nat) (k n : Nat) : (u8s L).set k (.int .u8 (n : Int)) = u8s (L.set k n) := by simp [u8s, List.map_set]
theorem arr_grown {W W' : World} {B g n : Nat} {e : TypeId} {xs : List Value} {row : Option Nat} (h : Arr W B e g n xs) (hg : W.grownBy W' row) (hr : row ≠ some g) : Arr W' B e g n xs :=
  World.ownsRow.kept h hg (.inr (fun e => hr (by rw [← e]; rfl)))
theorem arrT_own {β : Type} {B b g n : Nat} {e : TypeId} (P : β → List Nat → Prop) (hB : g < B) : OwnFrom B (fun (pre : β) W => ∃ T, P pre T ∧ Arr W b e g n (u8s T)) := fun pre W W' row ⟨T, hT, hA⟩ hg hr =>
  ⟨T, hT, arr_grown hA hg (fun e => by have := (hr g e).1; omega)⟩
theorem Bt.below {w w' : World} {b n c : Nat} {xs : List Value} (h : Bt w b n c xs) (hb : Below w.heap.size w w') : Bt w' b n c xs := by
  have hbl := hb.block b h.lt
  refine ⟨h.len, fun j v hj => ?_, fun j hj => ?_, fun j hj => ?_, h.one, Nat.lt_of_lt_of_le h.lt hb.size⟩
  · have := h.cell j v hj
    unfold World.cell? at this ⊢
    rw [hbl]; exact this
  · have := h.some j hj
    unfold World.cell? at this ⊢
    rw [hbl]; exact this
  · have := h.free j hj
    unfold World.frozen? at this ⊢
    rw [hbl]; exact this
set_option maxHeartbeats 8000000 in
set_option maxRecDepth 100000 in
theorem ptext_any (s : ByteArray) (p : Int) (w : World) (hl : s.size ≤ 4096) :
    Calls Tryz.prog 21 #[.string s, .int .i64 p] w fun e w' => e = .returned (.tuple #[.string (txtS (bsN s) p), .int .i64 (txtE (bsN s) p)]) ∧ Below w.heap.size w w' := by
  have CL := Lib.hid (bsN_length s)
  by_cases hbad : p < 0 ∨ (s.size : Int) < p
  · obtain ⟨e1, e2⟩ := txt_no (textI_big (c := bsN s) (p := p) (by rw [CL.out]; omega) (by rw [CL.out]; omega))
    rw [e1, e2]
    exact ptext_bad s p w hl hbad
  obtain ⟨i0, hi0, hz0, hz1, hz2⟩ := info_parts info_u8
  obtain ⟨q, rfl⟩ : ∃ q : Nat, p = (q : Int) := ⟨p.toNat, by omega⟩
  have hq : q ≤ s.size := by omega
  have HLT := Lib.hid (fun x (hx : x ∈ bsN s) => bsN_lt s x hx)
  obtain ⟨c, hc⟩ : ∃ c, c = bsN s := ⟨_, rfl⟩
  rw [← hc] at CL HLT ⊢
  obtain ⟨b1, b2, b3⟩ := three_boxes w 3 9 25 (.int .i64 q) (.string ⟨#[]⟩) (.int .i64 0)
  have B3 := Lib.hid (three_below (Below.refl _ w) (Nat.le_refl _) (.cells #[.int .i64 q] 3) (.cells #[.string ⟨#[]⟩] 9) (.cells #[.int .i64 0] 25))
  have s3 : (((w.alloc (.cells #[.int .i64 q] 3)).alloc (.cells #[.string ⟨#[]⟩] 9)).alloc (.cells #[.int .i64 0] 25)).heap.size = w.heap.size + 1 + 1 + 1 := by simp
  obtain ⟨w3, hw3⟩ : ∃ w3, w3 = (((w.alloc (.cells #[.int .i64 q] 3)).alloc (.cells #[.string ⟨#[]⟩] 9)).alloc (.cells #[.int .i64 0] 25)) := ⟨_, rfl⟩
  rw [← hw3] at b1 b2 b3 B3 s3
  obtain ⟨cb, wb, hcv, hcge, hcm, hBt, hsh, hbb⟩ := conv_bt w3 s (by omega)
  rw [← hc] at hBt
  rw [s3] at hcv hBt hsh hbb
  have HC := Lib.hid hc
  have nz : ¬ (4096 : Int) < (s.size : Int) := by omega
  have q1 : decide ((q : Int) < 0) = false := decide_eq_false (by omega)
  have q2 : decide ((s.size : Int) < (q : Int)) = false := decide_eq_false (by omega)
  have q3 : decide (s.size < q) = false := decide_eq_false (by omega)
  have hsb := hbb.size
  have hab : Below wb.heap.size wb (wb.alloc (.cells #[.int .u8 ((0 : Nat) : Int)] 5)) := (Below.refl _ wb).alloc (Nat.le_refl _) _
  have hcm2 : cb ≤ 9223372036854775807 := by unfold maxLen at hcm; omega
  have CI := insB_any c q (w.heap.size + 1 + 1 + 1) s.size cb wb.heap.size (w.heap.size + 1 + 1 + 1) (wb.alloc (.cells #[.int .u8 ((0 : Nat) : Int)] 5)) CL.out.symm hl hq (hBt.below hab) hcge hcm2 (Nat.le_refl _) (by rw [World.size_alloc]; omega) (by have := hBt.lt; omega) (World.alloc_heap_new wb _) (by
    unfold World.shape? at hsh ⊢
    rw [hab.block _ hBt.lt]; exact hsh)
  have CIH := Lib.hid CI
  have BB : Hid (Below (w.heap.size + 1 + 1 + 1) w3 (wb.alloc (.cells #[.int .u8 ((0 : Nat) : Int)] 5))) := Lib.hid (hbb.alloc (by omega) _)
  have S3 := Lib.hid s3
  have P1 := Lib.hid b1; have P2 := Lib.hid b2; have P3 := Lib.hid b3
  have c2 : wb.cell? ⟨w.heap.size, 0, none⟩ = some (.int .i64 q) := by rw [hbb.cell (p := ⟨w.heap.size, 0, none⟩) (by show w.heap.size < _; omega)]; exact b1.cell
  rw [hw3] at hcv
  clear hc hbad hBt hsh hbb b1 b2 b3 hcge hcm hcm2 hw3 CI hab s3 hsb
  refine (callsIn_wide (n := 4)).1 (callsIn_of_wp_marks Tryz.func21 rfl trivial ?_ rfl)
  simp only [Tryz.ntmps21, List.size_toArray, List.length_cons, List.length_nil, Nat.reduceAdd, Nat.reduceSub, Array.replicate_succ, Array.replicate_zero, List.push_toArray, List.append_toArray, List.nil_append, List.cons_append]
  refine wpIn_wide.2 ?_
  go_wp2_with fail
  refine CIH.out.mono ?_
  rintro e w4 ⟨g1, k1, rfl, hg1, hr1, hb4⟩
  have B4 : Hid (Below (w.heap.size + 1 + 1 + 1) w3 w4) := Lib.hid (BB.out.trans hb4)
  have hl3 : w.heap.size + 1 + 1 + 1 ≤ w4.heap.size := by have := B4.out.size; have := S3.out; omega
  have p1 : Boxed w4 w.heap.size 3 (.int .i64 q) := (B4.out.block _ (by omega)).trans P1.out
  have p2 : Boxed w4 (w.heap.size + 1) 9 (.string ⟨#[]⟩) := (B4.out.block _ (by omega)).trans P2.out
  have p3 : Boxed w4 (w.heap.size + 1 + 1) 25 (.int .i64 0) := (B4.out.block _ (by omega)).trans P3.out
  have hl4 : g1 < w4.heap.size := by
    obtain ⟨a, e, hl, _⟩ := hr1 0 (by rw [u8s_length, rowB_length (by rw [CL.out]; exact hq)]; omega)
    cases e; exact hl
  have d1 := (p1.alloc (.cells #[.slice (some ⟨g1, 0, none⟩) (s.size + 1) k1] 56)).cell
  have d2 := (Boxed.new w4 56 (.slice (some ⟨g1, 0, none⟩) (s.size + 1) k1))
  have d3 := d2.cell
  have CLD := Lib.hid (leads_any c q s.size k1 (some ⟨g1, 0, none⟩) (w4.alloc (.cells #[.slice (some ⟨g1, 0, none⟩) (s.size + 1) k1] 56)) CL.out.symm hl hq HLT.out (hr1.below ((Below.refl _ w4).alloc (Nat.le_refl _) _)))
  have R1 := Lib.hid hr1; have D6 := Lib.hid d2; have HL4 := Lib.hid (And.intro hg1 hl4)
  have Q0 := Lib.hid p1; have Q4 := Lib.hid p2; have Q5 := Lib.hid p3; have HL3 := Lib.hid hl3
  have A4 : Hid (Below w4.heap.size w4 (w4.alloc (.cells #[.slice (some ⟨g1, 0, none⟩) (s.size + 1) k1] 56))) := Lib.hid ((Below.refl _ w4).alloc (Nat.le_refl _) _)
  have S4 : Hid ((w4.alloc (.cells #[.slice (some ⟨g1, 0, none⟩) (s.size + 1) k1] 56)).heap.size = w4.heap.size + 1) := Lib.hid (World.size_alloc _ _)
  clear CIH hcv c2 hr1 hb4 p1 p2 p3 d2 hg1 hl4 hl3 P1 P2 P3
  go_wp2_with fail
  generalize hw4a : (w4.alloc (.cells #[.slice (some ⟨g1, 0, none⟩) (s.size + 1) k1] 56)) = w4a at CLD D6 A4 S4 d1 d3 ⊢
  clear hw4a d1 d3
  obtain ⟨h4, hh4⟩ : ∃ h4, h4 = w4.heap.size := ⟨_, rfl⟩
  rw [← hh4] at HL3 HL4 A4 S4 D6 ⊢
  have HH4 := Lib.hid hh4
  clear hh4
  refine CLD.out.mono ?_
  rintro e w5 ⟨g2, k2, rfl, hg2, hr2, hb5⟩
  rw [S4.out] at hg2 hb5
  have K45 : Hid (Below h4 w4 w5) := Lib.hid (A4.out.trans (hb5.mono (by omega)))
  have G6 : Hid (Boxed w5 h4 56 (.slice (some ⟨g1, 0, none⟩) (s.size + 1) k1)) := Lib.hid ((hb5.block _ (by omega)).trans D6.out)
  have hl5 : g2 < w5.heap.size := by
    obtain ⟨a, e, hl, _⟩ := hr2 0 (by rw [zs_length, tos_length]; omega)
    cases e; exact hl
  have D7 := Lib.hid (Boxed.new w5 23 (.slice (some ⟨g2, 0, none⟩) (s.size + 1) k2))
  have A5 : Hid (Below w5.heap.size w5 (w5.alloc (.cells #[.slice (some ⟨g2, 0, none⟩) (s.size + 1) k2] 23))) := Lib.hid ((Below.refl _ w5).alloc (Nat.le_refl _) _)
  have S5 : Hid ((w5.alloc (.cells #[.slice (some ⟨g2, 0, none⟩) (s.size + 1) k2] 23)).heap.size = w5.heap.size + 1) := Lib.hid (World.size_alloc _ _)
  have R2 := Lib.hid hr2; have HL5 := Lib.hid (And.intro hg2 hl5)
  clear CLD hr2 hb5 hg2 hl5 D6 A4 S4
  go_wp2_with (at_make; refine wpList_make_full _ rfl _ _ 56 rfl (w5.alloc (.cells #[.slice (some ⟨g2, 0, none⟩) (s.size + 1) k2] 23)).heap.size 5 i0 (.int .u8 0) 1 Tryz.underlying56 hi0 hz0 hz1 .i64 .i64 ↑s.size ↑s.size s.size rfl rfl rfl rfl ?c1 ?c2 ?c3 ?_)
  case c1 => rw [hz2]; omega
  case c2 => unfold maxLen; omega
  case c3 => simp
  intro w7 hown7 hgr7
  have b7 : Below (w5.heap.size + 1) (w5.alloc (.cells #[.slice (some ⟨g2, 0, none⟩) (s.size + 1) k2] 23)) w7 := (Below.refl _ _).grown hgr7 (by rw [S5.out]; exact Nat.le_refl _) (by simp)
  rw [toList_madeCells_one] at hown7
  try rw [S5.out] at hown7
  try rw [S5.out]
  have K57 : Hid (Below w5.heap.size w5 w7) := Lib.hid (A5.out.trans (b7.mono (by omega)))
  have G7 : Hid (Boxed w7 w5.heap.size 23 (.slice (some ⟨g2, 0, none⟩) (s.size + 1) k2)) := Lib.hid ((b7.block _ (by omega)).trans D7.out)
  obtain ⟨h5, hh5⟩ : ∃ h5, h5 = w5.heap.size := ⟨_, rfl⟩
  rw [← hh5] at hown7 K57 G7 HL5 ⊢
  have HH5 := Lib.hid hh5
  have T7 : Hid (Arr w7 (h5 + 1) 5 (h5 + 1) s.size (u8s (tx c q s.size 0))) := Lib.hid (by
    have e : u8s (tx c q s.size 0) = List.replicate s.size (.int .u8 0) := by rw [tx_zero]; simp [u8s]
    rw [e]; exact hown7)
  clear hown7 hgr7 b7 hh5 A5 S5 D7
  have HBW := Lib.hid (backward_any (some ⟨h5 + 1, 0, none⟩) s.size s.size)
  go_wp2_with fail
  refine (HBW.out _).mono ?_
  rintro e w8 ⟨rfl, rfl⟩
  have hbx := Lib.hid (three_boxes w7 56 3 56 (.slice (some ⟨h5 + 1, 0, none⟩) s.size s.size) (.int .i64 0) (.slice (some ⟨h5 + 1, 0, none⟩) s.size s.size))
  have hba := Lib.hid (three_below (Below.refl _ w7) (Nat.le_refl _) (.cells #[.slice (some ⟨h5 + 1, 0, none⟩) s.size s.size] 56) (.cells #[.int .i64 0] 3) (.cells #[.slice (some ⟨h5 + 1, 0, none⟩) s.size s.size] 56))
  have hsa : Hid (((((w7.alloc (.cells #[.slice (some ⟨h5 + 1, 0, none⟩) s.size s.size] 56)).alloc (.cells #[.int .i64 0] 3)).alloc (.cells #[.slice (some ⟨h5 + 1, 0, none⟩) s.size s.size] 56))).heap.size = w7.heap.size + 3) := Lib.hid (by simp)
  go_wp2_with fail
  generalize (((w7.alloc (.cells #[.slice (some ⟨h5 + 1, 0, none⟩) s.size s.size] 56)).alloc (.cells #[.int .i64 0] 3)).alloc (.cells #[.slice (some ⟨h5 + 1, 0, none⟩) s.size s.size] 56)) = wA at hbx hba hsa ⊢
  obtain ⟨h7, hh7⟩ : ∃ h7, h7 = w7.heap.size := ⟨_, rfl⟩
  rw [← hh7] at hbx hba hsa ⊢
  have HH7 := Lib.hid hh7
  have L57 : Hid (h5 + 2 ≤ h7) := Lib.hid (by have := T7.out.lt; rw [hh7]; omega)
  have L47 : Hid (h4 + 1 ≤ h5 ∧ h5 + 2 ≤ h7) := Lib.hid ⟨by have := HL5.out; omega, L57.out⟩
  have K5A : Hid (Below h5 w5 wA) := Lib.hid (K57.out.trans (hba.out.mono (by have := L57.out; omega)))
  have K4A : Hid (Below h4 w4 wA) := Lib.hid (K45.out.trans (K5A.out.mono (by have := HL5.out; omega)))
  have Z0 := Lib.hid ((K4A.out.block _ (by have := HL3.out; omega)).trans Q0.out : Boxed wA w.heap.size 3 (.int .i64 q))
  have Z4 := Lib.hid ((K4A.out.block _ (by have := HL3.out; omega)).trans Q4.out : Boxed wA (w.heap.size + 1) 9 (.string ⟨#[]⟩))
  have Z5 := Lib.hid ((K4A.out.block _ (by have := HL3.out; omega)).trans Q5.out : Boxed wA (w.heap.size + 1 + 1) 25 (.int .i64 0))
  have Z6 := Lib.hid ((K5A.out.block _ (by have := HL5.out; omega)).trans G6.out : Boxed wA h4 56 (.slice (some ⟨g1, 0, none⟩) (s.size + 1) k1))
  have Z7 := Lib.hid ((hba.out.block _ (by have := L57.out; omega)).trans G7.out : Boxed wA h5 23 (.slice (some ⟨g2, 0, none⟩) (s.size + 1) k2))
  have X1 : Hid (Rd wA (some ⟨g1, 0, none⟩) (u8s (rowB c q))) := Lib.hid (R1.out.below (by rw [← HH4.out]; exact K4A.out))
  have X2 : Hid (Rd wA (some ⟨g2, 0, none⟩) (zs (tos c q))) := Lib.hid (R2.out.below (by rw [← HH5.out]; exact K5A.out))
  have TA : Hid (Arr wA (h5 + 1) 5 (h5 + 1) s.size (u8s (tx c q s.size 0))) := Lib.hid (T7.out.below (by rw [← hh7]; exact hba.out))
  have BA : Hid (Below w.heap.size w wA) := Lib.hid (B3.out.trans ((B4.out.mono (by omega)).trans (K4A.out.mono (by have := HL3.out; omega))))
  have Z8 := Lib.hid hbx.out.1; have Z9 := Lib.hid hbx.out.2.1; have ZA := Lib.hid hbx.out.2.2
  have LG1 : Hid (g1 ≠ h5 + 1 ∧ g1 ≠ h7 + 1) := Lib.hid (by have := HL4.out; have := L47.out; omega)
  have LG2 : Hid (g2 ≠ h5 + 1 ∧ g2 ≠ h7 + 1) := Lib.hid (by have := HL5.out; have := L47.out; omega)
  have L3 : Hid (w.heap.size + 3 ≤ h4) := Lib.hid (by have := HL3.out; omega)
  clear hh7 hbx hba HBW K57 G7 T7 K5A K4A K45 G6 R1 R2 HL4 HL5 Q0 Q4 Q5 HL3 B4 B3 BB HH5 HH4 L57
  have HT0 := tx_length c q (n := s.size) (k := 0) (Nat.zero_le _)
  have HU : Hid (∀ j, j < s.size → ∃ z : Int, wA.cell? ⟨h5 + 1, j, none⟩ = some (.int .u8 z)) := Lib.hid (fun j hj => ⟨_, by rw [TA.out.cell hj, u8s_getD _ _ (by rw [HT0]; exact hj)]⟩)
  have LH : Hid (h5 + 1 < wA.heap.size ∧ h7 + 1 < wA.heap.size ∧ w.heap.size < wA.heap.size) := Lib.hid (by have := hsa.out; have := L47.out; have := L3.out; omega)
  clear HT0 HH7 S3 q1 q2 q3 nz
  clear w3 w4 w4a w5 w7
  refine (wpIn_wide (n := 4)).1 ?_
  refine wpIn_rangeFunc_ownG rfl (by omega) (gf := 67) (lb := #[.pointer (some ⟨h7 + 1 + 1, 0, none⟩)]) rfl trivial back_enters
    (back_stops (h7 + 1 + 1) (h5 + 1) s.size s.size wA hl (show Boxed _ _ _ _ from ZA.out).cell HU.out)
    (fun h k => KpU.trans h k) (fun W l o o' _ h hc _ => KpU.put W l o o' h hc) (Below.refl _ _) (fun _ => rfl)
    (fun pre W => Keep2 (h5 + 1) (h7 + 1) wA W ∧ Below w.heap.size w W ∧ Boxed W (h7 + 1) 3 (.int .i64 (runRow c q pre.length : Nat)) ∧ (pre.length ≤ s.size ∧ ∀ j, j < pre.length → runRow c q j ≠ q) ∧
      ∃ T, (T.length = s.size ∧ (pre.map (·.1) = List.range pre.length → T = tx c q s.size pre.length)) ∧ Arr W (h5 + 1) 5 (h5 + 1) s.size (u8s T))
    (fun code _ W => code = .ret ∧ Below w.heap.size w W ∧ Boxed W (w.heap.size + 1) 9 (.string ⟨#[]⟩) ∧ Boxed W (w.heap.size + 1 + 1) 25 (.int .i64 7) ∧ textI c (q : Int) = none)
    ((keep2_own (Nat.le_refl _)).and ((ownFrom_below (Nat.le_refl _) (Nat.le_of_lt LH.out.2.2)).and ((Own.from (boxed_own _ _ _) _).and ((ownFrom_pure _ _).and (arrT_own _ LH.out.1)))))
    (fun _ => (ownFrom_pure _ _).and ((ownFrom_below (Nat.le_refl _) (Nat.le_of_lt LH.out.2.2)).and ((Own.from (boxed_own _ _ _) _).and ((Own.from (boxed_own _ _ _) _).and (ownFrom_pure _ _)))))
    ⟨Keep2.refl _ _ _, BA.out, Z9.out, ⟨Nat.zero_le _, fun j hj => absurd hj (Nat.not_lt_zero _)⟩, _, ⟨tx_length c q (Nat.zero_le _), fun _ => rfl⟩, TA.out⟩
    (fun x => { tmps := #[.string s, .int .i64 q, undef, .pointer (some ⟨w.heap.size, 0, none⟩), .pointer (some ⟨w.heap.size + 1, 0, none⟩), .pointer (some ⟨w.heap.size + 1 + 1, 0, none⟩), .pointer (some ⟨h4, 0, none⟩), .pointer (some ⟨h5, 0, none⟩), .pointer (some ⟨h7, 0, none⟩), .pointer (some ⟨h7 + 1, 0, none⟩), .int .i64 ((s.size - 1 - x.1 : Nat) : Int), .string s, .int .i64 s.size, .bool false, .int .i64 q, .bool false, .bool false, .int .i64 q, .string s, .int .i64 s.size, .bool false, .bool false, .string s, .slice (some ⟨w.heap.size + 1 + 1 + 1, 0, none⟩) s.size cb, .int .i64 q, .slice (some ⟨wb.heap.size, 0, none⟩) 1 1, .slice (some ⟨g1, 0, none⟩) (s.size + 1) k1, .slice (some ⟨g1, 0, none⟩) (s.size + 1) k1, .int .i64 q, .slice (some ⟨g2, 0, none⟩) (s.size + 1) k2, .string s, .int .i64 s.size, .slice (some ⟨h5 + 1, 0, none⟩) s.size s.size, .slice (some ⟨h5 + 1, 0, none⟩) s.size s.size,
      .func (.func 67) #[] #[.pointer (some ⟨h7 + 1 + 1, 0, none⟩)], .int .i64 ((s.size - 1 - x.1 : Nat) : Int), .int .u8 x.2, undef, undef, undef, undef, undef, undef, undef, undef, undef, undef, undef, undef, undef, undef, undef, undef], defers := [] }) ?assign ?body ?done ?stop
  case assign =>
    intro lp x W K hK
    generalize s.size - 1 - x.1 = r at hK ⊢
    generalize x.2 = t at hK ⊢
    gi_wp2
    exact hK
  case body =>
    rintro lp pre x W ⟨hK2, hB, h9, ⟨hpl, hne⟩, T, ⟨hTl, hTe⟩, hA⟩ hlt
    have hL := L47.out; have hL3 := L3.out
    have hrl : runRow c q pre.length ≤ s.size := by
      have := runRow_le (c := c) (p := q) (by rw [CL.out]; exact hq) pre.length hne
      rw [CL.out] at this; exact this
    have hnxt : runRow c q (pre.length + 1) = nx c q (runRow c q pre.length) := rfl
    obtain ⟨row, hrow⟩ : ∃ row, row = runRow c q pre.length := ⟨_, rfl⟩
    rw [← hrow] at hrl h9 hnxt
    have b0 := hK2.boxed Z0.out (by omega) (by omega)
    have c0 := b0.cell
    have c9 := h9.cell
    by_cases hrq : row = q
    · have b4 := hK2.boxed Z4.out (by omega) (by omega)
      have b5 := hK2.boxed Z5.out (by omega) (by omega)
      have c4 := b4.cell; have f4 := b4.frozen; have c5 := b5.cell; have f5 := b5.frozen
      have t : ((row : Int) == (q : Int)) = true := by rw [beq_iff_eq]; omega
      have t2 : (row == q) = true := by rw [beq_iff_eq]; exact hrq
      have e1 : Hid (KeepsFrom wA.heap.size W ((W.setCell ⟨w.heap.size + 1, 0, none⟩ (.string ⟨#[]⟩)).setCell ⟨w.heap.size + 1 + 1, 0, none⟩ (.int .i64 7))) := Lib.hid
        ((KeepsFrom.of_grownBy (setCell_grown0 W ⟨w.heap.size + 1, 0, none⟩ _) (fun j e => by cases e; have := hsa.out; show w.heap.size + 1 < _; omega)).trans (KeepsFrom.of_grownBy (setCell_grown0 _ ⟨w.heap.size + 1 + 1, 0, none⟩ _) (fun j e => by cases e; have := hsa.out; show w.heap.size + 1 + 1 < _; omega)))
      have e2 := Lib.hid (below_put (below_put hB (a := ⟨w.heap.size + 1, 0, none⟩) (Nat.le_succ _) (.string ⟨#[]⟩)) (a := ⟨w.heap.size + 1 + 1, 0, none⟩) (by show w.heap.size ≤ w.heap.size + 1 + 1; omega) (.int .i64 7))
      have e3 := Lib.hid ((b4.set (.string ⟨#[]⟩)).other (B' := w.heap.size + 1 + 1) (by omega) (.int .i64 7))
      have e4 := Lib.hid ((b5.other (B' := w.heap.size + 1) (by omega) (.string ⟨#[]⟩)).set (.int .i64 7))
      have e5 : Hid (textI c (q : Int) = none) := Lib.hid (text_met (by rw [CL.out]; exact hq) (by rw [CL.out]; omega) hne (by rw [← hrow]; exact hrq))
      clear hK2 hB h9 hpl hne hTl hTe hA hrl hnxt hrow hrq b0 b4 b5 hlt hL hL3
      gi_wp2
      exact ⟨e1.out, rfl, e2.out, e3.out, e4.out, e5.out⟩
    · obtain ⟨m, hm⟩ : ∃ m, m = s.size - 1 - x.1 := ⟨_, rfl⟩
      rw [← hm]
      have hmn : m < s.size := by omega
      have r1 := hK2.rd X1.out (fun a e => by cases e; exact LG1.out) row (by rw [u8s_length, rowB_length (by rw [CL.out]; exact hq), CL.out]; omega)
      obtain ⟨a1, ea1, _, cb1⟩ := r1
      cases ea1
      have r2 := hK2.rd X2.out (fun a e => by cases e; exact LG2.out) row (by rw [zs_length, tos_length, CL.out]; omega)
      obtain ⟨a2, ea2, _, ct1⟩ := r2
      cases ea2
      rw [Addr.add_lit, Nat.zero_add] at cb1 ct1
      rw [u8s_getD _ _ (by rw [rowB_length (by rw [CL.out]; exact hq), CL.out]; omega), rowB_at (by rw [CL.out]; exact hq) (by rw [CL.out]; exact hrl) hrq] at cb1
      rw [zs_getD _ _ (by rw [tos_length, CL.out]; omega), tos_at (by rw [CL.out]; exact hrl) hrq, ← hnxt] at ct1
      have hby : byt c q pre.length = c.getD (ix q row) 0 := by unfold byt; rw [← hrow]
      rw [← hby] at cb1
      obtain ⟨bt, hbt⟩ : ∃ bt, bt = byt c q pre.length := ⟨_, rfl⟩
      rw [← hbt] at cb1
      obtain ⟨nr, hnr⟩ : ∃ nr, nr = runRow c q (pre.length + 1) := ⟨_, rfl⟩
      rw [← hnr] at ct1
      have b6 := hK2.boxed Z6.out (by omega) (by omega)
      have b7 := hK2.boxed Z7.out (by omega) (by omega)
      have b8 := hK2.boxed Z8.out (by omega) (by omega)
      have c6 := b6.cell; have c7 := b7.cell; have c8 := b8.cell; have f9 := h9.frozen
      have ca := hA.cell hmn
      have fa := hA.free m
      rw [u8s_getD _ _ (by rw [hTl]; exact hmn)] at ca
      have t : ((row : Int) == (q : Int)) = false := by rw [beq_eq_false_iff_ne]; omega
      have t2 : (row == q) = false := by rw [beq_eq_false_iff_ne]; exact hrq
      have m0 : (0 : Int) ≤ (m : Int) := by omega
      have m1 : (m : Int) < (s.size : Int) := by omega
      have n0 : (0 : Int) ≤ (row : Int) := by omega
      have n1 : (row : Int) < (s.size : Int) + 1 := by omega
      have e1 : Hid (KeepsFrom wA.heap.size W ((W.setCell ⟨h5 + 1, m, none⟩ (.int .u8 bt)).setCell ⟨h7 + 1, 0, none⟩ (.int .i64 nr))) := Lib.hid
        ((KeepsFrom.of_grownBy (setCell_grown0 W ⟨h5 + 1, m, none⟩ _) (fun j e => by cases e; exact LH.out.1)).trans (KeepsFrom.of_grownBy (setCell_grown0 _ ⟨h7 + 1, 0, none⟩ _) (fun j e => by cases e; exact LH.out.2.1)))
      have e2 := Lib.hid (below_put (below_put hB (a := ⟨h5 + 1, m, none⟩) (by show w.heap.size ≤ h5 + 1; omega) (.int .u8 bt)) (a := ⟨h7 + 1, 0, none⟩) (by show w.heap.size ≤ h7 + 1; omega) (.int .i64 nr))
      have e3 := Lib.hid ((h9.kept (setCell_grown0 W ⟨h5 + 1, m, none⟩ (.int .u8 bt)) (fun e => absurd (Option.some.inj e) (by show h7 + 1 ≠ h5 + 1; omega))).set (.int .i64 nr))
      have e4 := Lib.hid ((hK2.put ⟨h5 + 1, m, none⟩ (.int .u8 bt) (.inl rfl)).put ⟨h7 + 1, 0, none⟩ (.int .i64 nr) (.inr rfl))
      have e5 := Lib.hid ((hA.set m (.int .u8 bt)).other (a := ⟨h7 + 1, 0, none⟩) (by show h7 + 1 ≠ h5 + 1; omega) (.int .i64 nr))
      rw [u8s_set] at e5
      have e6 : Hid ((pre ++ [x]).length = pre.length + 1) := Lib.hid (by simp)
      have e7 : Hid ((T.set m bt).length = s.size ∧ ((pre ++ [x]).map (·.1) = List.range (pre ++ [x]).length → T.set m bt = tx c q s.size (pre ++ [x]).length)) := Lib.hid ⟨by rw [List.length_set, hTl], fun h => by
        rw [e6.out] at h ⊢
        rw [List.map_append, List.range_succ] at h
        obtain ⟨h1, h2⟩ := List.append_inj' h rfl
        have hx : x.1 = pre.length := by simpa using h2
        rw [hTe h1, hm, hx, hbt, tx_set c q hlt]⟩
      have e8 : Hid ((pre ++ [x]).length ≤ s.size ∧ ∀ j, j < (pre ++ [x]).length → runRow c q j ≠ q) := Lib.hid ⟨by rw [e6.out]; omega, fun j hj => by
        rw [e6.out] at hj
        by_cases e : j = pre.length
        · rw [e, ← hrow]; exact hrq
        · exact hne j (by omega)⟩
      have e9 : Hid (nr = runRow c q (pre ++ [x]).length) := Lib.hid (by rw [e6.out, hnr])
      have eK : Hid (KpU (h7 + 1 + 1) (h5 + 1) s.size W ((W.setCell ⟨h5 + 1, m, none⟩ (.int .u8 bt)).setCell ⟨h7 + 1, 0, none⟩ (.int .i64 nr))) := Lib.hid ⟨fun v hv => by
          have h1 := Boxed.kept (hK2.boxed ZA.out (by omega) (by omega)) (setCell_grown0 W ⟨h5 + 1, m, none⟩ (.int .u8 bt)) (fun e => absurd (Option.some.inj e) (by show h7 + 1 + 1 ≠ h5 + 1; omega))
          have h2 := h1.kept (setCell_grown0 _ ⟨h7 + 1, 0, none⟩ (.int .i64 nr)) (fun e => absurd (Option.some.inj e) (by show h7 + 1 + 1 ≠ h7 + 1; omega))
          have h3 := (hK2.boxed ZA.out (by omega) (by omega) : Boxed W _ _ _).cell
          rw [h3] at hv
          cases hv
          exact h2.cell, fun j hj _ => ⟨_, by rw [e5.out.cell hj, u8s_getD _ _ (by rw [List.length_set, hTl]; exact hj)]⟩⟩
      have gg1 : h7 + 1 ≠ h5 + 1 := by omega
      have gg2 : h5 ≠ h5 + 1 := by omega
      have gg3 := LG2.out.1
      clear hK2 hB h9 hpl hne hTl hTe hA hrl hnxt hrow hrq b0 b6 b7 b8 hlt hL hL3 hby hbt hnr hm hmn
      gi_wp2
      refine wpIn_mono (Q := fun e a' w' => e = .normal ∧ a' = { tmps := #[.string s, .int .i64 q, undef, .pointer (some ⟨w.heap.size, 0, none⟩), .pointer (some ⟨w.heap.size + 1, 0, none⟩), .pointer (some ⟨w.heap.size + 1 + 1, 0, none⟩), .pointer (some ⟨h4, 0, none⟩), .pointer (some ⟨h5, 0, none⟩), .pointer (some ⟨h7, 0, none⟩), .pointer (some ⟨h7 + 1, 0, none⟩), .int .i64 m, .string s, .int .i64 s.size, .bool false, .int .i64 q, .bool false, .bool false, .int .i64 q, .string s, .int .i64 s.size, .bool false, .bool false, .string s, .slice (some ⟨w.heap.size + 1 + 1 + 1, 0, none⟩) s.size cb, .int .i64 q, .slice (some ⟨wb.heap.size, 0, none⟩) 1 1, .slice (some ⟨g1, 0, none⟩) (s.size + 1) k1, .slice (some ⟨g1, 0, none⟩) (s.size + 1) k1, .int .i64 q, .slice (some ⟨g2, 0, none⟩) (s.size + 1) k2, .string s, .int .i64 s.size, .slice (some ⟨h5 + 1, 0, none⟩) s.size s.size, .slice (some ⟨h5 + 1, 0, none⟩) s.size s.size,
          .func (.func 67) #[] #[.pointer (some ⟨h7 + 1 + 1, 0, none⟩)], .int .i64 m, .int .u8 x.2, .int .i64 row, .int .i64 q, .bool false, .slice (some ⟨h5 + 1, 0, none⟩) s.size s.size, .int .i64 m, .slice (some ⟨g1, 0, none⟩) (s.size + 1) k1, .int .i64 row, .pointer (some ⟨g1, row, none⟩), .int .u8 bt, .pointer (some ⟨h5 + 1, m, none⟩), undef, undef, undef, undef, undef, undef], defers := [] } ∧ w' = (W.setCell ⟨h5 + 1, m, none⟩ (.int .u8 bt)).drew) ?_ ?_
      · clear e1 e2 e3 e4 e5 e6 e7 e8 e9 eK
        gi_region
        all_goals exact ⟨rfl, rfl, rfl⟩
      rintro e a' w' ⟨rfl, rfl, rfl⟩
      gi_wp2
      exact ⟨⟨e1.out.size, e1.out.same⟩, eK.out, e4.out, e2.out.drew, (by rw [← e9.out]; exact e3.out), e8.out, _, e7.out, e5.out⟩
  case done =>
    rintro D ys W hD hys ⟨hK2, hB, h9, ⟨hpl, hne⟩, T, ⟨hTl, hTe⟩, hA⟩ hK
    have hL := L47.out; have hL3 := L3.out
    have hlen : ys.length = s.size := by have := congrArg List.length hys; simpa using this
    rw [hlen] at hTe hne
    obtain rfl := hTe hys
    have b4 := hK2.boxed Z4.out (by omega) (by omega)
    have b5 := hK2.boxed Z5.out (by omega) (by omega)
    have b8 := hK2.boxed Z8.out (by omega) (by omega)
    have c4 := b4.cell; have f4 := b4.frozen; have c5 := b5.cell; have f5 := b5.frozen; have c8 := b8.cell
    have hx : ∀ x ∈ tx c q s.size s.size, x < 256 := fun x hx => by
      rw [tx_all] at hx
      unfold bk at hx
      obtain ⟨i, _, rfl⟩ := List.mem_map.1 (List.mem_reverse.1 hx)
      unfold byt
      rw [List.getD_eq_getElem?_getD]
      cases hi : c[ix q (runRow c q i)]? with
      | none => simp
      | some v => exact HLT.out v (List.mem_of_getElem? hi)
    have hbk := Row.run_back (bytes_of (show W.ownsRow (h5 + 1) 5 1 (.slice (some ⟨h5 + 1, 0, none⟩) s.size s.size) s.size (u8s (tx c q s.size s.size)) from hA) hx) s.size
    rw [List.length_map, hTl] at hbk
    obtain ⟨S, hS⟩ : ∃ S : ByteArray, S = ⟨((tx c q s.size s.size).map UInt8.ofNat).toArray⟩ := ⟨_, rfl⟩
    rw [← hS] at hbk
    have hY := txt_yes (text_yes (c := c) (p := q) (by rw [CL.out]; exact hq) (by rw [CL.out]; exact hne))
    rw [CL.out] at hY
    have HS : Hid (txtS c (q : Int) = S ∧ txtE c (q : Int) = 0) := Lib.hid ⟨by rw [hY.1, hS]; rfl, hY.2⟩
    have e2 := below_put (below_put hB (a := ⟨w.heap.size + 1, 0, none⟩) (Nat.le_succ _) (.string S)) (a := ⟨w.heap.size + 1 + 1, 0, none⟩) (by show w.heap.size ≤ w.heap.size + 1 + 1; omega) (.int .i64 0)
    have e3 := (b4.set (.string S)).other (B' := w.heap.size + 1 + 1) (by omega) (.int .i64 0)
    have e4 := (b5.other (B' := w.heap.size + 1) (by omega) (.string S)).set (.int .i64 0)
    have hsz := hsa.out
    have e5 : ((W.setCell ⟨w.heap.size + 1, 0, none⟩ (.string S)).setCell ⟨w.heap.size + 1 + 1, 0, none⟩ (.int .i64 0)).heap[D]? = some (.deferred (some [])) :=
      (Below.heap_setCell _ _ _ D (by show D ≠ w.heap.size + 1 + 1; omega)).trans ((Below.heap_setCell _ _ _ D (by show D ≠ w.heap.size + 1; omega)).trans hK)
    have E2 := Lib.hid e2; have E3 := Lib.hid e3; have E4 := Lib.hid e4; have E5 := Lib.hid e5; have HD := Lib.hid hD
    clear hK2 hB h9 hpl hne hTl hTe hA hx hL hL3 b4 b5 b8 hS hY e2 e3 e4 e5 hys hlen hK
    go_wp2_with fail
    refine ⟨by simp, .inl ⟨_, _, rfl, run_takeDeferred E5.out, ?_⟩⟩
    have k4 := E3.out.kept (grownBy_putObj' _ D (.deferred none)) (fun e => absurd (Option.some.inj e) (by have := HD.out; have := hsa.out; have := L47.out; have := L3.out; omega))
    have k5 := E4.out.kept (grownBy_putObj' _ D (.deferred none)) (fun e => absurd (Option.some.inj e) (by have := HD.out; have := hsa.out; have := L47.out; have := L3.out; omega))
    have kb := E2.out.trans (belowK_b (w := wA) (Nat.le_of_lt LH.out.2.2) _ D _ (.deferred none) HD.out E5.out rfl rfl)
    refine ⟨.tuple #[.string S, .int .i64 0], by simp [results, Tryz.results21, go_sem, k4.cell, k5.cell], ?_⟩
    rw [HS.out.1, HS.out.2]
    exact ⟨rfl, kb⟩
  case stop =>
    rintro D code pre W hD _ ⟨rfl, hB, u4, u5, hE⟩ hK
    have hL3 := L3.out; have hsz := hsa.out; have hL := L47.out
    have HE := Lib.hid (txt_no hE)
    have k4 := Lib.hid (u4.kept (grownBy_putObj' _ D (.deferred none)) (fun e => absurd (Option.some.inj e) (by omega)))
    have k5 := Lib.hid (u5.kept (grownBy_putObj' _ D (.deferred none)) (fun e => absurd (Option.some.inj e) (by omega)))
    have kb := Lib.hid (hB.trans (belowK_b (w := wA) (Nat.le_of_lt LH.out.2.2) _ D _ (.deferred none) hD hK rfl rfl))
    have HK := Lib.hid hK
    clear hK u4 u5 hB hE hL3 hsz hD hL
    gi_wp2
    refine ⟨by simp, .inl ⟨_, _, rfl, run_takeDeferred HK.out, ?_⟩⟩
    refine ⟨.tuple #[.string ⟨#[]⟩, .int .i64 7], by simp [results, Tryz.results21, go_sem, k4.out.cell, k5.out.cell], ?_⟩
    rw [HE.out.1, HE.out.2]
    exact ⟨rfl, kb.out⟩
end Go.Proofs.YtfmnnbeegfjnaaaGreat.Od
