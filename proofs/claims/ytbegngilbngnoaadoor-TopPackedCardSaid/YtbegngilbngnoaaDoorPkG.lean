/- The document's Lengths of two leaves or more. -/
import Derived.Test.YtbegngilbngnoaaDoorBnC
namespace Go.Proofs.YtbegngilbngnoaaDoor.Pk
open Go.RowKit Go.Lib Rw Ls Od _root_.Go.Proofs.YtbegngilbngnoaaDoor.Nm

theorem cnts_lf {S : List Nat} (hS : S.Nodup) {k : Nat} (hk : k < S.length) : (List.replicate S.length 0).set k 1 = cnts S (.lf S[k]) := by
  apply List.ext_getElem
  · simp [cnts]
  · intro i h1 h2
    have hi : i < S.length := by simpa [cnts] using h2
    simp only [cnts, List.getElem_map, List.getElem_set, List.getElem_replicate, cnt_lf]
    by_cases e : k = i
    · subst e; simp
    · rw [if_neg e, if_neg]
      intro h
      exact e ((List.getElem_inj hS).1 h)
theorem put_map (W : Nat → Nat) (i : Nat) : ∀ l : List Nat, put (Tr.wt W) (.lf i) (l.map Tr.lf) = (put W i l).map Tr.lf
  | [] => rfl
  | y :: l => by
    rw [List.map_cons, put, put]
    show (if W y ≤ W i then _ else _) = _
    by_cases h : W y ≤ W i
    · rw [if_pos h, if_pos h, put_map W i l]; rfl
    · rw [if_neg h, if_neg h]; rfl
/-- the leaves of the first so many symbols -/
def lfs (ws : List Nat) (k : Nat) : List Tr := (((sy ws).take k).foldl (fun l x => put (wf ws) x l) []).map Tr.lf
theorem lfs_succ {ws : List Nat} {k : Nat} (hk : k < (sy ws).length) : lfs ws (k + 1) = put (Tr.wt (wf ws)) (.lf (sy ws)[k]) (lfs ws k) := by
  unfold lfs
  rw [put_map, List.take_succ_eq_append_getElem hk, List.foldl_append]; rfl
theorem lfs_all (ws : List Nat) : lfs ws (sy ws).length = lev (wf ws) (lv ws) 0 := by
  unfold lfs
  rw [List.take_length]; rfl
theorem lfs_up (ws : List Nat) (k : Nat) : Up (Tr.wt (wf ws)) (lfs ws k) := up_map (puts_up _ List.Pairwise.nil)
theorem lfs_length {ws : List Nat} {k : Nat} (hk : k ≤ (sy ws).length) : (lfs ws k).length = k := by
  unfold lfs
  rw [List.length_map, (puts_perm (wf ws) _ _).length_eq, List.append_nil, List.length_take]; omega
theorem two_allocs (w : World) (o1 o2 : Obj) : ((w.alloc o1).alloc o2).drew.heap[w.heap.size]? = some o1 ∧ ((w.alloc o1).alloc o2).drew.heap[w.heap.size + 1]? = some o2 ∧ Below w.heap.size w ((w.alloc o1).alloc o2).drew ∧ ((w.alloc o1).alloc o2).drew.heap.size = w.heap.size + 2 := by
  have e1 : (w.alloc o1).heap.size = w.heap.size + 1 := World.size_alloc _ _
  refine ⟨?_, ?_, ?_, ?_⟩
  · show ((w.alloc o1).alloc o2).heap[w.heap.size]? = _
    rw [Below.heap_alloc _ _ _ (by omega)]
    exact heap_alloc_new w o1
  · show ((w.alloc o1).alloc o2).heap[w.heap.size + 1]? = _
    rw [← e1]
    exact heap_alloc_new _ o2
  · exact (((Below.refl _ w).alloc (Nat.le_refl _) _).alloc (by omega) _).drew
  · show ((w.alloc o1).alloc o2).heap.size = _
    rw [World.size_alloc, e1]
/-- what lies from the beginning of Lengths on: the weights, the symbols, the answer -/
structure LB (w : World) (p q : Option Addr) (ws S : List Nat) (og m : Nat) (O : List Nat) (wr : World) : Prop where
  P : Rd wr p (nums ws)
  Q : Rd wr q (zs (up S))
  A : Arr wr og 3 og m (zs (up O))
  B : Below w.heap.size w wr
theorem LB.below {w : World} {p q : Option Addr} {ws S : List Nat} {og m : Nat} {O : List Nat} {wr w' : World} (h : LB w p q ws S og m O wr) (hb : Below wr.heap.size wr w') : LB w p q ws S og m O w' :=
  ⟨h.P.below hb, h.Q.below hb, h.A.below hb, h.B.trans (hb.mono h.B.size)⟩
/-- the leaves so far, in memory -/
def Lv1 (ws : List Nat) (og k : Nat) (v : Value) (wr : World) : Prop := (k = 0 ∧ v = .slice none 0 0) ∨ (0 < k ∧ ∃ g cap, v = .slice (some ⟨g, 0, none⟩) k cap ∧ k ≤ cap ∧ g < wr.heap.size ∧ og < g ∧ ItR (og + 1) (sy ws) (wf ws) wr (some ⟨g, 0, none⟩) (lfs ws k))
/-- a row of items, in memory -/
def LvJ (ws : List Nat) (og : Nat) (ts : List Tr) (v : Value) (wr : World) : Prop := ∃ g cap, v = .slice (some ⟨g, 0, none⟩) ts.length cap ∧ ts.length ≤ cap ∧ g < wr.heap.size ∧ og < g ∧ ItR (og + 1) (sy ws) (wf ws) wr (some ⟨g, 0, none⟩) ts
theorem LvJ.below {ws : List Nat} {og : Nat} {ts : List Tr} {v : Value} {wr w' : World} (h : LvJ ws og ts v wr) (hb : Below wr.heap.size wr w') : LvJ ws og ts v w' := by
  obtain ⟨g, cap, h1, h2, h3, h4, h5⟩ := h
  exact ⟨g, cap, h1, h2, Nat.lt_of_lt_of_le h3 hb.size, h4, h5.below hb⟩
theorem itr_lt {B : Nat} {S : List Nat} {W : Nat → Nat} {w : World} {g : Nat} {ts : List Tr} (h : ItR B S W w (some ⟨g, 0, none⟩) ts) (hn : 0 < ts.length) : g < w.heap.size := by
  obtain ⟨xs, h1, h2⟩ := h
  obtain ⟨a, e, hl, _⟩ := h2 0 (by rw [iv_length, h1.length]; omega)
  cases e; exact hl
theorem pup_lv {ws : List Nat} {og n : Nat} {ts : List Tr} {w w' : World} {e : Ending} (h : PuP (og + 1) (sy ws) (wf ws) w n ts e w') (hn : n = ts.length) (h0 : 0 < n) (hog : og < w.heap.size) : ∃ v, e = .returned v ∧ LvJ ws og ts v w' ∧ Below w.heap.size w w' := by
  obtain ⟨g, cap, rfl, hc, hr, hg, hb⟩ := h
  subst hn
  exact ⟨_, rfl, ⟨g, cap, rfl, hc, itr_lt hr h0, by omega, hr⟩, hb⟩
theorem lv1_of {ws : List Nat} {og k : Nat} {v : Value} {w : World} (hk : k ≤ (sy ws).length) (h0 : 0 < k) (h : LvJ ws og (lfs ws k) v w) : Lv1 ws og k v w := by
  obtain ⟨g, cap, h1, h2, h3, h4, h5⟩ := h
  rw [lfs_length hk] at h1 h2
  exact .inr ⟨h0, g, cap, h1, h2, h3, h4, h5⟩
theorem Lv1.below {ws : List Nat} {og k : Nat} {v : Value} {wr w' : World} (h : Lv1 ws og k v wr) (hb : Below wr.heap.size wr w') : Lv1 ws og k v w' := by
  rcases h with h | ⟨h0, g, cap, h1, h2, h3, h4, h5⟩
  · exact .inl h
  · exact .inr ⟨h0, g, cap, h1, h2, Nat.lt_of_lt_of_le h3 hb.size, h4, h5.below hb⟩
theorem lev_le (W : Nat → Nat) (L : List Nat) : ∀ j, (lev W L j).length ≤ 2 * L.length
  | 0 => by simp [lev]; omega
  | j + 1 => by have := lev_le W L j; rw [lev_length]; omega
/-- the next level so far -/
def nx (ws : List Nat) (I j : Nat) : List Tr := ((prs (lev (wf ws) (lv ws) I)).take j).foldl (fun l x => put (Tr.wt (wf ws)) x l) (lev (wf ws) (lv ws) 0)
theorem nx_up (ws : List Nat) (I j : Nat) : Up (Tr.wt (wf ws)) (nx ws I j) := puts_up _ (lev_up (lv_up ws) 0)
theorem prs_at : ∀ (l : List Tr) (j : Nat) (h : 2 * j + 1 < l.length), ∃ h2 : j < (prs l).length, (prs l)[j] = .nd (l[2 * j]'(by omega)) l[2 * j + 1]
  | [], j, h => by simp at h
  | [_], j, h => by simp at h
  | a :: b :: l, 0, h => ⟨by simp [prs], by simp [prs]⟩
  | a :: b :: l, j + 1, h => by
    obtain ⟨h2, e⟩ := prs_at l j (by simp only [List.length_cons] at h; omega)
    refine ⟨by simp only [prs, List.length_cons]; omega, ?_⟩
    simp only [prs, List.getElem_cons_succ, e]
    rfl
theorem nx_succ {ws : List Nat} {I j : Nat} (h : 2 * j + 1 < (lev (wf ws) (lv ws) I).length) : nx ws I (j + 1) = put (Tr.wt (wf ws)) (.nd ((lev (wf ws) (lv ws) I)[2 * j]'(by omega)) (lev (wf ws) (lv ws) I)[2 * j + 1]) (nx ws I j) := by
  obtain ⟨h2, e⟩ := prs_at _ j h
  unfold nx
  rw [List.take_succ_eq_append_getElem h2, List.foldl_append, e]; rfl
theorem nx_all (ws : List Nat) (I j : Nat) (h : j = (lev (wf ws) (lv ws) I).length / 2) : nx ws I j = lev (wf ws) (lv ws) (I + 1) := by
  unfold nx
  rw [List.take_of_length_le (by rw [prs_length]; omega), puts_mrg _ (lev_up (lv_up ws) 0) (prs_up (lev_up (lv_up ws) I))]; rfl
theorem nx_length (ws : List Nat) (I j : Nat) (h : j ≤ (lev (wf ws) (lv ws) I).length / 2) : (nx ws I j).length = (lv ws).length + j := by
  unfold nx
  rw [(puts_perm _ _ _).length_eq, List.length_append, List.length_take, prs_length]
  simp [lev]; omega
/-- the answer so far: so many packages counted -/
def acc (ws : List Nat) (T : List Tr) (j : Nat) : List Nat := (List.range ws.length).map fun i => if i ∈ sy ws then sum (Tr.cnt i) (T.take j) else 0
/-- and of the next one so many symbols -/
def acc2 (ws : List Nat) (T : List Tr) (j kk : Nat) : List Nat := (List.range ws.length).map fun i => if i ∈ (sy ws).take kk then sum (Tr.cnt i) (T.take (j + 1)) else if i ∈ sy ws then sum (Tr.cnt i) (T.take j) else 0
theorem acc_zero (ws : List Nat) (T : List Tr) : List.replicate ws.length 0 = acc ws T 0 := by
  unfold acc
  apply List.ext_getElem
  · simp
  · intro i h1 h2; simp [sum_nil]
theorem acc2_zero (ws : List Nat) (T : List Tr) (j : Nat) : acc2 ws T j 0 = acc ws T j := by
  unfold acc2 acc
  apply List.map_congr_left
  intro i _
  rw [List.take_zero, if_neg (by simp)]
theorem acc2_full (ws : List Nat) (T : List Tr) (j : Nat) : acc2 ws T j (sy ws).length = acc ws T (j + 1) := by
  unfold acc2 acc
  apply List.map_congr_left
  intro i _
  rw [List.take_length]
  by_cases h : i ∈ sy ws
  · rw [if_pos h, if_pos h]
  · rw [if_neg h, if_neg h, if_neg h]
theorem not_taken {S : List Nat} (hS : S.Nodup) {k : Nat} (hk : k < S.length) : S[k] ∉ S.take k := fun h => by
  obtain ⟨i, hi, e⟩ := List.getElem_of_mem h
  rw [List.length_take] at hi
  rw [List.getElem_take] at e
  have := (List.getElem_inj hS).1 e
  omega
theorem acc2_at {ws : List Nat} {T : List Tr} {j kk : Nat} (hk : kk < (sy ws).length) : (acc2 ws T j kk).getD (sy ws)[kk] 0 = sum (Tr.cnt (sy ws)[kk]) (T.take j) := by
  have hm := List.getElem_mem hk
  have hi := (sy_lt hm).1
  unfold acc2
  rw [List.getD_eq_getElem?_getD, List.getElem?_map, List.getElem?_range hi]
  show (if (sy ws)[kk] ∈ _ then _ else _) = _
  rw [if_neg (not_taken (sy_nodup ws) hk), if_pos hm]
theorem acc2_succ {ws : List Nat} {T : List Tr} {j kk : Nat} (hk : kk < (sy ws).length) (hj : j < T.length) : (acc2 ws T j kk).set (sy ws)[kk] (sum (Tr.cnt (sy ws)[kk]) (T.take j) + (T[j]).cnt (sy ws)[kk]) = acc2 ws T j (kk + 1) := by
  apply List.ext_getElem
  · simp [acc2]
  · intro i h1 h2
    have hi : i < ws.length := by simpa [acc2] using h2
    rw [List.getElem_set]
    simp only [acc2, List.getElem_map, List.getElem_range]
    rw [List.take_succ_eq_append_getElem hk]
    by_cases e : (sy ws)[kk] = i
    · rw [if_pos e, if_pos (by simp [e]), List.take_succ_eq_append_getElem hj, sum_app, sum_cons, sum_nil, e]; omega
    · rw [if_neg e]
      have h3 : (i ∈ (sy ws).take kk ++ [(sy ws)[kk]]) ↔ i ∈ (sy ws).take kk := by
        rw [List.mem_append, List.mem_singleton]
        constructor
        · rintro (h | h)
          · exact h
          · exact absurd h.symm e
        · exact .inl
      by_cases h4 : i ∈ (sy ws).take kk
      · rw [if_pos h4, if_pos (h3.2 h4)]
      · rw [if_neg h4, if_neg (fun h => h4 (h3.1 h))]
theorem acc_length (ws : List Nat) (T : List Tr) (j : Nat) : (acc ws T j).length = ws.length := by simp [acc]
theorem sum_bound {f : Tr → Nat} {c : Nat} : ∀ {l : List Tr}, (∀ t ∈ l, f t ≤ c) → sum f l ≤ l.length * c
  | [], _ => by simp [sum_nil]
  | t :: l, h => by
    have h1 := h t (by simp)
    have h2 := sum_bound (l := l) fun u hu => h u (by simp [hu])
    rw [sum_cons, List.length_cons, Nat.succ_mul]; omega
theorem lens_acc {ws : List Nat} {I : Nat} (h2 : 2 ≤ (lv ws).length) (hk : (lv ws).length ≤ 2 ^ (I + 1)) : acc ws (lev (wf ws) (lv ws) I) (2 * (lv ws).length - 2) = lens ws (I + 1) := by
  unfold acc lens
  apply List.map_congr_left
  intro i _
  rw [if_neg (show ¬ (lv ws).length < 2 by omega), Nat.add_sub_cancel]
  by_cases h : i ∈ sy ws
  · rw [if_pos h]; rfl
  · rw [if_neg h, (len_full (lv_up ws) (lv_nodup ws) h2 hk).2.2.2 i (fun h3 => h ((lv_perm ws).mem_iff.1 h3))]
theorem LB.put {w : World} {p q : Option Addr} {ws S : List Nat} {og m : Nat} {O : List Nat} {wr : World} (h : LB w p q ws S og m O wr) (hp : ∀ a, p = some a → a.block ≠ og) (hq : ∀ a, q = some a → a.block ≠ og) (hw : w.heap.size ≤ og) (i v : Nat) : LB w p q ws S og m (O.set i v) (wr.setCell ⟨og, i, none⟩ (.int .i64 (v : Int))) :=
  ⟨_root_.Go.Proofs.YtbegngilbngnoaaDoor.Ls.Rd.put h.P hp _, _root_.Go.Proofs.YtbegngilbngnoaaDoor.Ls.Rd.put h.Q hq _, by have := h.A.set i (.int .i64 (v : Int)); rwa [zs_up_set] at this, below_put h.B (a := ⟨og, i, none⟩) hw _⟩
theorem Fit.put {B : Nat} {S : List Nat} {W : Nat → Nat} {w : World} {x : Nat × Value} {t : Tr} (h : Fit B S W w x t) {a : Addr} (ha : a.block < B) (v : Value) : Fit B S W (w.setCell a v) x t := by
  obtain ⟨h1, g, h2, h3, h4⟩ := h
  exact ⟨h1, g, h2, h3, _root_.Go.Proofs.YtbegngilbngnoaaDoor.Ls.Rd.put h4 (fun q e => by cases e; show g ≠ a.block; omega) v⟩
theorem LvJ.put {ws : List Nat} {og : Nat} {ts : List Tr} {v : Value} {wr : World} (h : LvJ ws og ts v wr) (i : Nat) (u : Value) : LvJ ws og ts v (wr.setCell ⟨og, i, none⟩ u) := by
  obtain ⟨g, cap, h1, h2, h3, h4, xs, h5, h6⟩ := h
  exact ⟨g, cap, h1, h2, by simpa using h3, h4, xs, h5.imp fun _ _ h => h.put (a := ⟨og, i, none⟩) (Nat.lt_succ_self _) u, _root_.Go.Proofs.YtbegngilbngnoaaDoor.Ls.Rd.put h6 (fun q e => by cases e; show g ≠ og; omega) u⟩
end Go.Proofs.YtbegngilbngnoaaDoor.Pk
