/- The walk of order.Common. -/
import Derived.Test.YtfmnnbeegfjnaaaGreatOrdPShared
namespace Go.Proofs.YtfmnnbeegfjnaaaGreat.Od
open Go.RowKit Go.Lib Rw Ls _root_.Go.Proofs.YtfmnnbeegfjnaaaGreat.Nm
attribute [local go_sem] Oper.semAt_some wide_fn

/-- what lies in the row when so many places were gone over -/
def acc (l M : List Nat) (n : Nat) (pre : List Nat) : List Nat := pre.foldl (fun C x => C.set (M.getD x 0) (ahd l M x)) (List.replicate n 0)
theorem acc_snoc (l M : List Nat) (n : Nat) (pre : List Nat) (x : Nat) : acc l M n (pre ++ [x]) = (acc l M n pre).set (M.getD x 0) (ahd l M x) := by
  unfold acc; rw [List.foldl_append]; rfl
theorem acc_at {l M : List Nat} {n : Nat} (hn : n = l.length) (hinv : ∀ j, j < l.length → M.getD ((ends l).getD j 0) 0 = j) : ∀ k, k ≤ n → (acc l M n (List.range k)).length = n ∧ ∀ j, j < n → (acc l M n (List.range k)).getD j 0 = if (ends l).getD j 0 < k then comV l (ends l) j else 0
  | 0, _ => ⟨by simp [acc], fun j hj => by simp [acc, List.getD_eq_getElem?_getD, hj]⟩
  | k + 1, hk => by
    obtain ⟨h1, h2⟩ := acc_at hn hinv k (by omega)
    rw [List.range_succ, acc_snoc]
    have hkl : k < l.length := by omega
    obtain ⟨r1, r2⟩ := ends_row hinv hkl
    refine ⟨by rw [List.length_set, h1], fun j hj => ?_⟩
    rw [List.getD_eq_getElem?_getD, List.getElem?_set]
    by_cases e : M.getD k 0 = j
    · rw [if_pos e, if_pos (by rw [h1]; omega), Option.getD_some, ← e, r2, if_pos (by omega), comV_row hinv hkl]
    · rw [if_neg e, ← List.getD_eq_getElem?_getD, h2 j hj]
      have hne : (ends l).getD j 0 ≠ k := fun h => e (by rw [← h]; exact hinv j (by omega))
      by_cases h3 : (ends l).getD j 0 < k
      · rw [if_pos h3, if_pos (by omega)]
      · rw [if_neg h3, if_neg (by omega)]
theorem acc_all {l M : List Nat} {n : Nat} (hn : n = l.length) (hinv : ∀ j, j < l.length → M.getD ((ends l).getD j 0) 0 = j) : acc l M n (List.range n) = com l (ends l) n := by
  obtain ⟨h1, h2⟩ := acc_at hn hinv n (Nat.le_refl _)
  apply List.ext_getElem (by rw [h1, com_length])
  intro j a b
  have hj : j < n := by rw [h1] at a; exact a
  have := h2 j hj
  rw [gd a, if_pos (by have := ends_lt (l := l) (j := j) (by omega); omega)] at this
  rw [this]
  simp only [com, List.getElem_map, List.getElem_range]
  rfl
theorem setCell_grown (W : World) (a : Addr) (v : Value) : W.grownBy (W.setCell a v) (some a.block) :=
  ⟨rfl, rfl, rfl, (KeepsWalks.setCell W _ v).size, fun k _ hk => Below.heap_setCell _ _ _ k (fun e => hk (by rw [e]))⟩
theorem kpC_set (W : World) (g k : Nat) (v : Value) : KpC g W (W.setCell ⟨g, k, none⟩ v) := by
  refine ⟨(setCell_grown W ⟨g, k, none⟩ v).size, fun a ha u hu => ?_⟩
  have hlt := cell_lt hu
  unfold World.cell? at hu ⊢
  rw [(setCell_grown W ⟨g, k, none⟩ v).block a.block hlt (fun e => ha (Option.some.inj e))]
  exact hu
set_option maxHeartbeats 8000000 in
set_option maxRecDepth 100000 in
theorem pcommon_any (l : List Nat) (E : List Int) (p q : Option Addr) (c d : Nat) (w : World) (hp : Rd w p (nums l)) (hq : Rd w q (zs E)) (hlc : l.length ≤ c) (hl : l.length ≤ 17592186044416) (hE : E.length ≤ 17592186044416) :
    Calls Tryz.prog 14 #[.slice p l.length c, .slice q E.length d] w (PlacesP w (comL l E) (comE l E)) := by
  obtain ⟨i0, hi0, hz0, hz1, hz2⟩ := info_parts info_int
  have HC := Lib.hid (pright_any l E p q c d w hp hq hlc hl hE)
  cases hR : right l E with
  | false =>
    have F : Hid (comL l E = [] ∧ comE l E = 2) := Lib.hid (by unfold comL comE; rw [hR]; exact ⟨rfl, rfl⟩)
    rw [hR] at HC
    rw [F.out.1, F.out.2]
    clear hR
    go_enter Tryz.func14, Tryz.ntmps14
    go_wp2_with fail
    refine HC.out.mono ?_
    rintro e w1 ⟨rfl, b⟩
    have B1 := Lib.hid b
    clear b
    go_wp2_with fail
    refine bodyPost_ret (v := .tuple #[.slice none 0 0, .int .i64 2]) (by simp [results, Tryz.results14, go_sem]) rfl ?_
    exact places_no rfl B1.out
  | true =>
    have hEe := right_iff.1 hR
    rw [hR] at HC
    have F : Hid (comL l E = com l (ends l) l.length ∧ comE l E = 0) := Lib.hid (by unfold comL comE; rw [hR]; exact ⟨rfl, rfl⟩)
    clear hR
    subst hEe
    obtain ⟨M, hM, hMl, hinv⟩ := inv_perm (P := ends l) (by rw [ends_length]; exact ends_perm l)
    obtain ⟨n, hn⟩ : ∃ n, n = l.length := ⟨_, rfl⟩
    have hen : (up (ends l)).length = n := by rw [up_length, ends_length, hn]
    have HM : Hid ((invL (up (ends l)) = M ∧ invE (up (ends l)) = 0) ∧ M.length = n ∧ ∀ j, j < l.length → M.getD ((ends l).getD j 0) 0 = j) := Lib.hid ⟨inv_yes hM, by rw [hMl, ends_length, hn], fun j hj => hinv j (by rw [ends_length]; exact hj)⟩
    have HP := Lib.hid hp; have HQ := Lib.hid hq
    rw [hen] at HC hE ⊢
    rw [← hn] at hl hlc F HC ⊢
    have HN := Lib.hid hn
    clear hp hq hn hen hM hMl hinv
    refine (callsIn_wide (n := 4)).1 (callsIn_of_wp_marks Tryz.func14 rfl trivial ?_ rfl)
    simp only [Tryz.ntmps14, List.size_toArray, List.length_cons, List.length_nil, Nat.reduceAdd, Nat.reduceSub, Array.replicate_succ, Array.replicate_zero, List.push_toArray, List.append_toArray, List.nil_append, List.cons_append]
    refine wpIn_wide.2 ?_
    go_wp2_with fail
    refine HC.out.mono ?_
    rintro e w1 ⟨rfl, b⟩
    have B1 := Lib.hid b
    have P1 := Lib.hid (HP.out.below b)
    have Q1 := Lib.hid (HQ.out.below b)
    clear b
    go_wp2_with (at_make; refine wpList_make_full _ rfl _ _ 23 rfl w1.heap.size 3 i0 (.int .i64 0) 1 Tryz.underlying23 hi0 hz0 hz1 .i64 .i64 ↑n ↑n n rfl rfl rfl rfl ?c1 ?c2 ?c3 ?_)
    case c1 => rw [hz2]; omega
    case c2 => unfold maxLen; omega
    case c3 => simp
    intro w2 hown2 hgr2
    have b2 : Below w1.heap.size w1 w2 := (Below.refl _ w1).grown hgr2 (Nat.le_refl _) (by simp)
    rw [toList_madeCells_one] at hown2
    obtain ⟨g, hg⟩ : ∃ g, g = w1.heap.size := ⟨_, rfl⟩
    rw [← hg] at hown2 b2 ⊢
    have A2 : Hid (Arr w2 g 3 g n (zs (up (acc l M n [])))) := Lib.hid (by
      have e : acc l M n [] = List.replicate n 0 := rfl
      rw [e, ← zs_zeros]; exact hown2)
    have B2 := Lib.hid b2
    have HG := Lib.hid hg
    clear b2 hown2 hgr2 hg
    have HS := Lib.hid (fun w => shared_any p q n c n d w)
    go_wp2_with fail
    refine (HS.out _).mono ?_
    rintro e w3 ⟨rfl, rfl⟩
    go_wp2_with fail
    have bx : Hid (Boxed (((w2.alloc (.cells #[.slice (some ⟨g, 0, none⟩) n n] 23)).alloc (.cells #[.slice p n c] 22)).alloc (.cells #[.slice q n d] 23)) w2.heap.size 23 (.slice (some ⟨g, 0, none⟩) n n)) :=
      Lib.hid (((Boxed.new w2 23 _).kept (World.grownBy_alloc _ _ none) (by simp)).kept (World.grownBy_alloc _ _ none) (by simp))
    have cp : Hid ((((w2.alloc (.cells #[.slice (some ⟨g, 0, none⟩) n n] 23)).alloc (.cells #[.slice p n c] 22)).alloc (.cells #[.slice q n d] 23)).cell? ⟨w2.heap.size + 1, 0, none⟩ = some (.slice p n c)) := Lib.hid (by
      have h1 := Boxed.new (w2.alloc (.cells #[.slice (some ⟨g, 0, none⟩) n n] 23)) 22 (.slice p n c)
      have h2 := (h1.kept (World.grownBy_alloc _ (.cells #[.slice q n d] 23) none) (by simp)).cell
      rwa [World.size_alloc] at h2)
    have cq : Hid ((((w2.alloc (.cells #[.slice (some ⟨g, 0, none⟩) n n] 23)).alloc (.cells #[.slice p n c] 22)).alloc (.cells #[.slice q n d] 23)).cell? ⟨w2.heap.size + 1 + 1, 0, none⟩ = some (.slice q n d)) := Lib.hid (by
      have h1 := (Boxed.new ((w2.alloc (.cells #[.slice (some ⟨g, 0, none⟩) n n] 23)).alloc (.cells #[.slice p n c] 22)) 23 (.slice q n d)).cell
      rwa [World.size_alloc, World.size_alloc] at h1)
    have b5 : Hid (Below w2.heap.size w2 (((w2.alloc (.cells #[.slice (some ⟨g, 0, none⟩) n n] 23)).alloc (.cells #[.slice p n c] 22)).alloc (.cells #[.slice q n d] 23))) :=
      Lib.hid ((((Below.refl _ w2).alloc (Nat.le_refl _) _).alloc (by simp) _).alloc (by simp <;> omega) _)
    have s5 : Hid ((((w2.alloc (.cells #[.slice (some ⟨g, 0, none⟩) n n] 23)).alloc (.cells #[.slice p n c] 22)).alloc (.cells #[.slice q n d] 23)).heap.size = w2.heap.size + 3) := Lib.hid (by simp)
    generalize (((w2.alloc (.cells #[.slice (some ⟨g, 0, none⟩) n n] 23)).alloc (.cells #[.slice p n c] 22)).alloc (.cells #[.slice q n d] 23)) = w5 at bx cp cq b5 s5 ⊢
    have gl := A2.out.lt.2
    obtain ⟨s2, hs2⟩ : ∃ s2, s2 = w2.heap.size := ⟨_, rfl⟩
    rw [← hs2] at bx cp cq b5 s5 gl ⊢
    have hgp : Hid (0 < n → ∀ a, p = some a → a.block ≠ g) := Lib.hid (fun h0 a e => by
      obtain ⟨a', e', hl', _⟩ := P1.out 0 (by rw [nums_length, ← HN.out]; exact h0)
      rw [e] at e'; cases e'
      have := HG.out; omega)
    have hgq : Hid (0 < n → ∀ a, q = some a → a.block ≠ g) := Lib.hid (fun h0 a e => by
      obtain ⟨a', e', hl', _⟩ := Q1.out 0 (by rw [zs_length, up_length, ends_length, ← HN.out]; exact h0)
      rw [e] at e'; cases e'
      have := HG.out; omega)
    have A5 : Hid (Arr w5 g 3 g n (zs (up (acc l M n [])))) := Lib.hid (A2.out.below (by rw [← hs2]; exact b5.out))
    have P5 : Hid (Rd w5 p (nums l)) := Lib.hid ((P1.out.below (by rw [← HG.out]; exact B2.out)).below (by rw [← hs2]; exact b5.out))
    have Q5 : Hid (Rd w5 q (zs (up (ends l)))) := Lib.hid ((Q1.out.below (by rw [← HG.out]; exact B2.out)).below (by rw [← hs2]; exact b5.out))
    have W5 : Hid (Below w.heap.size w w5) := Lib.hid ((B1.out.trans (B2.out.mono (by rw [HG.out]; exact B1.out.size))).trans (b5.out.mono (by rw [hs2]; exact Nat.le_trans B1.out.size B2.out.size)))
    have hwg : w.heap.size ≤ g := by rw [HG.out]; exact B1.out.size
    clear hs2
    refine (wpIn_wide (n := 4)).1 ?_
    refine wpIn_rangeFunc_ownG rfl (by omega) (gf := 55) (lb := #[.pointer (some ⟨s2 + 1 + 1, 0, none⟩), .pointer (some ⟨s2 + 1, 0, none⟩)]) rfl trivial shared_enters
      (shared_stops (s2 + 1 + 1) (s2 + 1) g n c d l M p q w5 HN.out hl HM.out.1 HM.out.2.1 HM.out.2.2 hgp.out hgq.out (by omega) (by omega) (by have := s5.out; omega) cq.out cp.out P5.out Q5.out)
      (fun h k => KpC.trans h k) (fun W l o o' _ h hc _ => KpC.put W l o o' h hc) (Below.refl _ _) (fun _ => rfl)
      (fun pre W => (∃ v, Boxed W s2 23 v ∧ W.ownsRow g 3 1 v n (zs (up (acc l M n pre))) ∧ v = .slice (some ⟨g, 0, none⟩) n n) ∧ Below w.heap.size w W)
      (fun _ _ _ => False)
      (OwnFrom.and (Own.from (holdsRow_own g s2 23 3 1 (fun _ : List Nat => n) (fun pre => zs (up (acc l M n pre))) (fun _ v => v = .slice (some ⟨g, 0, none⟩) n n)) _) (ownFrom_below (Nat.le_refl _) (by have := W5.out.size; omega)))
      (fun _ _ _ _ _ hs _ _ => hs)
      ⟨⟨_, bx.out, A5.out, rfl⟩, W5.out⟩
      (fun x => { tmps := #[.slice p n c, .slice q n d, undef, undef, .slice none 0 0, .int .i64 0, .pointer (some ⟨s2, 0, none⟩), .int .i64 (M.getD x 0 : Nat), .int .i64 (ahd l M x : Nat), .slice p n c, .slice q n d, .bool true, .bool false, .slice q n d, .int .i64 n, .slice (some ⟨g, 0, none⟩) n n, .slice p n c, .slice q n d,
        .func (.func 55) #[] #[.pointer (some ⟨s2 + 1 + 1, 0, none⟩), .pointer (some ⟨s2 + 1, 0, none⟩)], .int .i64 (M.getD x 0 : Nat), .int .i64 (ahd l M x : Nat), undef, undef, undef, undef, undef], defers := [] }) ?assign ?body ?done ?stop
    case assign =>
      intro lp x W K hK
      generalize M.getD x 0 = r at hK ⊢
      generalize ahd l M x = t at hK ⊢
      gi_wp2
      exact hK
    case body =>
      rintro lp pre x W ⟨⟨v, hv, hrow, rfl⟩, hB⟩ hlt
      obtain ⟨r, hr⟩ : ∃ r, r = M.getD x 0 := ⟨_, rfl⟩
      obtain ⟨t, ht⟩ : ∃ t, t = ahd l M x := ⟨_, rfl⟩
      have hrn : r < n := by
        rw [hr]
        by_cases hx : x < l.length
        · rw [HN.out]; exact (ends_row HM.out.2.2 hx).1
        · rw [List.getD_eq_getElem?_getD, List.getElem?_eq_none (by rw [HM.out.2.1, HN.out]; omega), Option.getD_none]; omega
      have H2 : Hid (((W.setCell ⟨g, r, none⟩ (.int .i64 t)).ownsRow g 3 1 (.slice (some ⟨g, 0, none⟩) n n) n (zs (up (acc l M n (pre ++ [x])))))) := Lib.hid (by
        have := Arr.set (show Arr W g 3 g n _ from hrow) r (.int .i64 t)
        rw [zs_set, up_set, hr, ht, ← acc_snoc, ← hr, ← ht] at this
        exact this)
      rw [← hr, ← ht]
      have hb := Lib.hid hv
      have hc := hv.cell
      have hf := hrow.frozenAt r
      have cg := Arr.cell (show Arr W g 3 g n _ from hrow) hrn
      have r0 : (0 : Int) ≤ (r : Int) := by omega
      have r1 : (r : Int) < (n : Int) := by omega
      have HB2 : Hid (Below w.heap.size w (W.setCell ⟨g, r, none⟩ (.int .i64 t))) := Lib.hid (below_put hB (a := ⟨g, r, none⟩) hwg _)
      have HBx : Hid (Boxed (W.setCell ⟨g, r, none⟩ (.int .i64 t)) s2 23 (.slice (some ⟨g, 0, none⟩) n n)) := Lib.hid (hv.kept (setCell_grown W ⟨g, r, none⟩ _) (by simp; omega))
      have G5 : Hid (g < w5.heap.size) := Lib.hid (by have := s5.out; omega)
      clear hr ht hrow hB hv
      gi_wp2
      exact ⟨KeepsFrom.of_grownBy (setCell_grown W ⟨g, r, none⟩ _) (fun j e => by cases e; exact G5.out), kpC_set W g r _, ⟨_, HBx.out, H2.out, rfl⟩, HB2.out⟩
    case done =>
      rintro D ys W hD rfl ⟨⟨v, hv, hrow, rfl⟩, hB⟩ hK
      have hc := hv.cell
      have hrow2 := Lib.hid (ownsRow_putObj hrow (.deferred none) hK rfl)
      have HBq := Lib.hid (hB.trans (belowK_b (w := w5) W5.out.size W D _ (.deferred none) hD hK rfl rfl))
      rw [acc_all HN.out HM.out.2.2] at hrow2
      go_wp2
      refine ⟨by simp, .inl ⟨_, _, rfl, run_takeDeferred hK, ?_⟩⟩
      refine ⟨.tuple #[.slice (some ⟨g, 0, none⟩) n n, .int .i64 0], by simp [results, Tryz.results14, go_sem], ?_⟩
      rw [F.out.1, F.out.2]
      exact ⟨some ⟨g, 0, none⟩, n, by rw [com_length], by rw [com_length]; exact Nat.le_refl _, Arr.rd (show Arr _ g 3 g n _ from hrow2.out), fun a e => by cases e; exact hwg, fun a e i _ => by cases e; have e1 : ((⟨g, 0, none⟩ : Addr).add i) = ⟨g, i, none⟩ := (by simp [Addr.add] <;> omega); rw [e1]; exact hrow2.out.frozenAt i, HBq.out⟩
    case stop =>
      rintro D c pre W _ _ h _
      exact h.elim
end Go.Proofs.YtfmnnbeegfjnaaaGreat.Od
