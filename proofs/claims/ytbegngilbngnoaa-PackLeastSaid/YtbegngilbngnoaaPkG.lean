/- The document's Lengths of two leaves or more. -/
import Derived.Test.YtbegngilbngnoaaPkF
namespace Go.Proofs.Ytbegngilbngnoaa.Pk
open Go.RowKit Go.Lib Rw Ls Od _root_.Go.Proofs.Ytbegngilbngnoaa.Nm

theorem cnts_lf {S : List Nat} (hS : S.Nodup) {k : Nat} (hk : k < S.length) : (List.replicate S.length 0).set k 1 = cnts S (.lf S[k]) := by
  apply List.ext_getElem
  · simp [cnts]
  · intro i h1 h2
    have hi : i < S.length := by simpa [cnts] using h2
    simp only [cnts, List.getElem_map, List.getElem_set, List.getElem_replicate, cnt_lf]
    by_cases e : k = i
    · subst e; simp
    · rw [if_neg e, if_neg]
      intro h
      exact e ((List.getElem_inj hS).1 h)
theorem put_map (W : Nat → Nat) (i : Nat) : ∀ l : List Nat, put (Tr.wt W) (.lf i) (l.map Tr.lf) = (put W i l).map Tr.lf
  | [] => rfl
  | y :: l => by
    rw [List.map_cons, put, put]
    show (if W y ≤ W i then _ else _) = _
    by_cases h : W y ≤ W i
    · rw [if_pos h, if_pos h, put_map W i l]; rfl
    · rw [if_neg h, if_neg h]; rfl
/-- the leaves of the first so many symbols -/
def lfs (ws : List Nat) (k : Nat) : List Tr := (((sy ws).take k).foldl (fun l x => put (wf ws) x l) []).map Tr.lf
theorem lfs_succ {ws : List Nat} {k : Nat} (hk : k < (sy ws).length) : lfs ws (k + 1) = put (Tr.wt (wf ws)) (.lf (sy ws)[k]) (lfs ws k) := by
  unfold lfs
  rw [put_map, List.take_succ_eq_append_getElem hk, List.foldl_append]; rfl
theorem lfs_all (ws : List Nat) : lfs ws (sy ws).length = lev (wf ws) (lv ws) 0 := by
  unfold lfs
  rw [List.take_length]; rfl
theorem lfs_up (ws : List Nat) (k : Nat) : Up (Tr.wt (wf ws)) (lfs ws k) := up_map (puts_up _ List.Pairwise.nil)
theorem lfs_length {ws : List Nat} {k : Nat} (hk : k ≤ (sy ws).length) : (lfs ws k).length = k := by
  unfold lfs
  rw [List.length_map, (puts_perm (wf ws) _ _).length_eq, List.append_nil, List.length_take]; omega
theorem two_allocs (w : World) (o1 o2 : Obj) : ((w.alloc o1).alloc o2).drew.heap[w.heap.size]? = some o1 ∧ ((w.alloc o1).alloc o2).drew.heap[w.heap.size + 1]? = some o2 ∧ Below w.heap.size w ((w.alloc o1).alloc o2).drew ∧ ((w.alloc o1).alloc o2).drew.heap.size = w.heap.size + 2 := by
  have e1 : (w.alloc o1).heap.size = w.heap.size + 1 := World.size_alloc _ _
  refine ⟨?_, ?_, ?_, ?_⟩
  · show ((w.alloc o1).alloc o2).heap[w.heap.size]? = _
    rw [Below.heap_alloc _ _ _ (by omega)]
    exact heap_alloc_new w o1
  · show ((w.alloc o1).alloc o2).heap[w.heap.size + 1]? = _
    rw [← e1]
    exact heap_alloc_new _ o2
  · exact (((Below.refl _ w).alloc (Nat.le_refl _) _).alloc (by omega) _).drew
  · show ((w.alloc o1).alloc o2).heap.size = _
    rw [World.size_alloc, e1]
/-- what lies from the beginning of Lengths on: the weights, the symbols, the answer -/
structure LB (w : World) (p q : Option Addr) (ws S : List Nat) (og m : Nat) (O : List Nat) (wr : World) : Prop where
  P : Rd wr p (nums ws)
  Q : Rd wr q (zs (up S))
  A : Arr wr og 3 og m (zs (up O))
  B : Below w.heap.size w wr
theorem LB.below {w : World} {p q : Option Addr} {ws S : List Nat} {og m : Nat} {O : List Nat} {wr w' : World} (h : LB w p q ws S og m O wr) (hb : Below wr.heap.size wr w') : LB w p q ws S og m O w' :=
  ⟨h.P.below hb, h.Q.below hb, h.A.below hb, h.B.trans (hb.mono h.B.size)⟩
/-- the leaves so far, in memory -/
def Lv1 (ws : List Nat) (og k : Nat) (v : Value) (wr : World) : Prop := (k = 0 ∧ v = .slice none 0 0) ∨ (0 < k ∧ ∃ g cap, v = .slice (some ⟨g, 0, none⟩) k cap ∧ k ≤ cap ∧ g < wr.heap.size ∧ og < g ∧ ItR (og + 1) (sy ws) (wf ws) wr (some ⟨g, 0, none⟩) (lfs ws k))
/-- a row of items, in memory -/
def LvJ (ws : List Nat) (og : Nat) (ts : List Tr) (v : Value) (wr : World) : Prop := ∃ g cap, v = .slice (some ⟨g, 0, none⟩) ts.length cap ∧ ts.length ≤ cap ∧ g < wr.heap.size ∧ og < g ∧ ItR (og + 1) (sy ws) (wf ws) wr (some ⟨g, 0, none⟩) ts
theorem LvJ.below {ws : List Nat} {og : Nat} {ts : List Tr} {v : Value} {wr w' : World} (h : LvJ ws og ts v wr) (hb : Below wr.heap.size wr w') : LvJ ws og ts v w' := by
  obtain ⟨g, cap, h1, h2, h3, h4, h5⟩ := h
  exact ⟨g, cap, h1, h2, Nat.lt_of_lt_of_le h3 hb.size, h4, h5.below hb⟩
theorem itr_lt {B : Nat} {S : List Nat} {W : Nat → Nat} {w : World} {g : Nat} {ts : List Tr} (h : ItR B S W w (some ⟨g, 0, none⟩) ts) (hn : 0 < ts.length) : g < w.heap.size := by
  obtain ⟨xs, h1, h2⟩ := h
  obtain ⟨a, e, hl, _⟩ := h2 0 (by rw [iv_length, h1.length]; omega)
  cases e; exact hl
theorem pup_lv {ws : List Nat} {og n : Nat} {ts : List Tr} {w w' : World} {e : Ending} (h : PuP (og + 1) (sy ws) (wf ws) w n ts e w') (hn : n = ts.length) (h0 : 0 < n) (hog : og < w.heap.size) : ∃ v, e = .returned v ∧ LvJ ws og ts v w' ∧ Below w.heap.size w w' := by
  obtain ⟨g, cap, rfl, hc, hr, hg, hb⟩ := h
  subst hn
  exact ⟨_, rfl, ⟨g, cap, rfl, hc, itr_lt hr h0, by omega, hr⟩, hb⟩
/-- one more leaf -/
theorem put_leaf {ws : List Nat} {og k : Nat} {v : Value} {wr W : World} {x : Nat × Value} (hk : k < (sy ws).length) (hl : (sy ws).length ≤ 1000000) (h : Lv1 ws og k v wr) (hog : og < wr.heap.size) (hb : Below wr.heap.size wr W) (hx : Fit (og + 1) (sy ws) (wf ws) W x (.lf (sy ws)[k])) :
    Calls Try.prog 22 #[v, .agg #[.int .u64 (x.1 : Int), x.2]] W fun e w' => ∃ v', e = .returned v' ∧ LvJ ws og (lfs ws (k + 1)) v' w' ∧ Below W.heap.size W w' := by
  have hlen := lfs_length (ws := ws) (k := k + 1) (by omega)
  have hsz := hb.size
  rcases h with ⟨rfl, rfl⟩ | ⟨h0, g, cap, rfl, h1, h2, h3, h4⟩
  · refine (put_tr0 hx).mono fun e w' hp => ?_
    have e0 : lfs ws 0 = [] := rfl
    rw [lfs_succ hk, e0] at hlen ⊢
    exact pup_lv hp (by rw [hlen]) (by omega) (by omega)
  · refine (put_tr (lfs_length (by omega)).symm (by omega) h1 (lfs_up ws k) (h4.below hb) (by omega) hx).mono fun e w' hp => ?_
    rw [lfs_succ hk] at hlen ⊢
    exact pup_lv hp (by rw [hlen]) (by omega) (by omega)
theorem lv1_of {ws : List Nat} {og k : Nat} {v : Value} {w : World} (hk : k ≤ (sy ws).length) (h0 : 0 < k) (h : LvJ ws og (lfs ws k) v w) : Lv1 ws og k v w := by
  obtain ⟨g, cap, h1, h2, h3, h4, h5⟩ := h
  rw [lfs_length hk] at h1 h2
  exact .inr ⟨h0, g, cap, h1, h2, h3, h4, h5⟩
theorem Lv1.below {ws : List Nat} {og k : Nat} {v : Value} {wr w' : World} (h : Lv1 ws og k v wr) (hb : Below wr.heap.size wr w') : Lv1 ws og k v w' := by
  rcases h with h | ⟨h0, g, cap, h1, h2, h3, h4, h5⟩
  · exact .inl h
  · exact .inr ⟨h0, g, cap, h1, h2, Nat.lt_of_lt_of_le h3 hb.size, h4, h5.below hb⟩
theorem lev_le (W : Nat → Nat) (L : List Nat) : ∀ j, (lev W L j).length ≤ 2 * L.length
  | 0 => by simp [lev]; omega
  | j + 1 => by have := lev_le W L j; rw [lev_length]; omega
/-- the next level so far -/
def nx (ws : List Nat) (I j : Nat) : List Tr := ((prs (lev (wf ws) (lv ws) I)).take j).foldl (fun l x => put (Tr.wt (wf ws)) x l) (lev (wf ws) (lv ws) 0)
theorem nx_up (ws : List Nat) (I j : Nat) : Up (Tr.wt (wf ws)) (nx ws I j) := puts_up _ (lev_up (lv_up ws) 0)
theorem prs_at : ∀ (l : List Tr) (j : Nat) (h : 2 * j + 1 < l.length), ∃ h2 : j < (prs l).length, (prs l)[j] = .nd (l[2 * j]'(by omega)) l[2 * j + 1]
  | [], j, h => by simp at h
  | [_], j, h => by simp at h
  | a :: b :: l, 0, h => ⟨by simp [prs], by simp [prs]⟩
  | a :: b :: l, j + 1, h => by
    obtain ⟨h2, e⟩ := prs_at l j (by simp only [List.length_cons] at h; omega)
    refine ⟨by simp only [prs, List.length_cons]; omega, ?_⟩
    simp only [prs, List.getElem_cons_succ, e]
    rfl
theorem nx_succ {ws : List Nat} {I j : Nat} (h : 2 * j + 1 < (lev (wf ws) (lv ws) I).length) : nx ws I (j + 1) = put (Tr.wt (wf ws)) (.nd ((lev (wf ws) (lv ws) I)[2 * j]'(by omega)) (lev (wf ws) (lv ws) I)[2 * j + 1]) (nx ws I j) := by
  obtain ⟨h2, e⟩ := prs_at _ j h
  unfold nx
  rw [List.take_succ_eq_append_getElem h2, List.foldl_append, e]; rfl
theorem nx_all (ws : List Nat) (I j : Nat) (h : j = (lev (wf ws) (lv ws) I).length / 2) : nx ws I j = lev (wf ws) (lv ws) (I + 1) := by
  unfold nx
  rw [List.take_of_length_le (by rw [prs_length]; omega), puts_mrg _ (lev_up (lv_up ws) 0) (prs_up (lev_up (lv_up ws) I))]; rfl
theorem nx_length (ws : List Nat) (I j : Nat) (h : j ≤ (lev (wf ws) (lv ws) I).length / 2) : (nx ws I j).length = (lv ws).length + j := by
  unfold nx
  rw [(puts_perm _ _ _).length_eq, List.length_append, List.length_take, prs_length]
  simp [lev]; omega
/-- one more package -/
theorem put_pack {ws : List Nat} {og : Nat} {ts : List Tr} {t : Tr} {v : Value} {wr W : World} {x : Nat × Value} (hu : Up (Tr.wt (wf ws)) ts) (hl : ts.length ≤ 1000000) (h : LvJ ws og ts v wr) (_hog : og < wr.heap.size) (hb : Below wr.heap.size wr W) (hx : Fit (og + 1) (sy ws) (wf ws) W x t) :
    Calls Try.prog 22 #[v, .agg #[.int .u64 (x.1 : Int), x.2]] W fun e w' => ∃ v', e = .returned v' ∧ LvJ ws og (put (Tr.wt (wf ws)) t ts) v' w' ∧ Below W.heap.size W w' := by
  have hsz := hb.size
  obtain ⟨g, cap, rfl, h1, h2, h3, h4⟩ := h
  refine (put_tr rfl hl h1 hu (h4.below hb) (by omega) hx).mono fun e w' hp => ?_
  exact pup_lv hp (by rw [put_length]) (by omega) (by omega)
/-- two packages as one -/
theorem both_pack {ws : List Nat} {og I : Nat} {t u : Tr} {W : World} {x y : Nat × Value} (ho : okW ws = true) (hI : I ≤ 14) (hog : og < W.heap.size) (ht : t ∈ lev (wf ws) (lv ws) I) (hu : u ∈ lev (wf ws) (lv ws) I) (hx : Fit (og + 1) (sy ws) (wf ws) W x t) (hy : Fit (og + 1) (sy ws) (wf ws) W y u) :
    Calls Try.prog 23 #[.agg #[.int .u64 (x.1 : Int), x.2], .agg #[.int .u64 (y.1 : Int), y.2]] W fun e w' => ∃ z : Nat × Value, e = .returned (.agg #[.int .u64 (z.1 : Int), z.2]) ∧ Fit (og + 1) (sy ws) (wf ws) w' z (.nd t u) ∧ Below W.heap.size W w' := by
  have h1 := lev_sz I t ht
  have h2 := lev_sz I u hu
  have h3 : 2 ^ I ≤ 2 ^ 14 := Nat.pow_le_pow_right (by omega) hI
  have h4 : (2 : Nat) ^ 14 = 16384 := by decide
  have h5 : (Tr.nd t u).sz ≤ 32768 := by show t.sz + u.sz ≤ _; omega
  have h6 := wt_sz (W := wf ws) (m := 1099511627776) (fun i => okW_at ho i) (.nd t u)
  have h7 : (Tr.nd t u).sz * 1099511627776 ≤ 32768 * 1099511627776 := Nat.mul_le_mul_right _ h5
  have h8 := sy_len ws; have h9 := okW_len ho
  exact both_tr hx hy (by omega) (by omega) (by omega) (by omega)
/-- the answer so far: so many packages counted -/
def acc (ws : List Nat) (T : List Tr) (j : Nat) : List Nat := (List.range ws.length).map fun i => if i ∈ sy ws then sum (Tr.cnt i) (T.take j) else 0
/-- and of the next one so many symbols -/
def acc2 (ws : List Nat) (T : List Tr) (j kk : Nat) : List Nat := (List.range ws.length).map fun i => if i ∈ (sy ws).take kk then sum (Tr.cnt i) (T.take (j + 1)) else if i ∈ sy ws then sum (Tr.cnt i) (T.take j) else 0
theorem acc_zero (ws : List Nat) (T : List Tr) : List.replicate ws.length 0 = acc ws T 0 := by
  unfold acc
  apply List.ext_getElem
  · simp
  · intro i h1 h2; simp [sum_nil]
theorem acc2_zero (ws : List Nat) (T : List Tr) (j : Nat) : acc2 ws T j 0 = acc ws T j := by
  unfold acc2 acc
  apply List.map_congr_left
  intro i _
  rw [List.take_zero, if_neg (by simp)]
theorem acc2_full (ws : List Nat) (T : List Tr) (j : Nat) : acc2 ws T j (sy ws).length = acc ws T (j + 1) := by
  unfold acc2 acc
  apply List.map_congr_left
  intro i _
  rw [List.take_length]
  by_cases h : i ∈ sy ws
  · rw [if_pos h, if_pos h]
  · rw [if_neg h, if_neg h, if_neg h]
theorem not_taken {S : List Nat} (hS : S.Nodup) {k : Nat} (hk : k < S.length) : S[k] ∉ S.take k := fun h => by
  obtain ⟨i, hi, e⟩ := List.getElem_of_mem h
  rw [List.length_take] at hi
  rw [List.getElem_take] at e
  have := (List.getElem_inj hS).1 e
  omega
theorem acc2_at {ws : List Nat} {T : List Tr} {j kk : Nat} (hk : kk < (sy ws).length) : (acc2 ws T j kk).getD (sy ws)[kk] 0 = sum (Tr.cnt (sy ws)[kk]) (T.take j) := by
  have hm := List.getElem_mem hk
  have hi := (sy_lt hm).1
  unfold acc2
  rw [List.getD_eq_getElem?_getD, List.getElem?_map, List.getElem?_range hi]
  show (if (sy ws)[kk] ∈ _ then _ else _) = _
  rw [if_neg (not_taken (sy_nodup ws) hk), if_pos hm]
theorem acc2_succ {ws : List Nat} {T : List Tr} {j kk : Nat} (hk : kk < (sy ws).length) (hj : j < T.length) : (acc2 ws T j kk).set (sy ws)[kk] (sum (Tr.cnt (sy ws)[kk]) (T.take j) + (T[j]).cnt (sy ws)[kk]) = acc2 ws T j (kk + 1) := by
  apply List.ext_getElem
  · simp [acc2]
  · intro i h1 h2
    have hi : i < ws.length := by simpa [acc2] using h2
    rw [List.getElem_set]
    simp only [acc2, List.getElem_map, List.getElem_range]
    rw [List.take_succ_eq_append_getElem hk]
    by_cases e : (sy ws)[kk] = i
    · rw [if_pos e, if_pos (by simp [e]), List.take_succ_eq_append_getElem hj, sum_app, sum_cons, sum_nil, e]; omega
    · rw [if_neg e]
      have h3 : (i ∈ (sy ws).take kk ++ [(sy ws)[kk]]) ↔ i ∈ (sy ws).take kk := by
        rw [List.mem_append, List.mem_singleton]
        constructor
        · rintro (h | h)
          · exact h
          · exact absurd h.symm e
        · exact .inl
      by_cases h4 : i ∈ (sy ws).take kk
      · rw [if_pos h4, if_pos (h3.2 h4)]
      · rw [if_neg h4, if_neg (fun h => h4 (h3.1 h))]
theorem acc_length (ws : List Nat) (T : List Tr) (j : Nat) : (acc ws T j).length = ws.length := by simp [acc]
theorem sum_bound {f : Tr → Nat} {c : Nat} : ∀ {l : List Tr}, (∀ t ∈ l, f t ≤ c) → sum f l ≤ l.length * c
  | [], _ => by simp [sum_nil]
  | t :: l, h => by
    have h1 := h t (by simp)
    have h2 := sum_bound (l := l) fun u hu => h u (by simp [hu])
    rw [sum_cons, List.length_cons, Nat.succ_mul]; omega
theorem lens_acc {ws : List Nat} {I : Nat} (h2 : 2 ≤ (lv ws).length) (hk : (lv ws).length ≤ 2 ^ (I + 1)) : acc ws (lev (wf ws) (lv ws) I) (2 * (lv ws).length - 2) = lens ws (I + 1) := by
  unfold acc lens
  apply List.map_congr_left
  intro i _
  rw [if_neg (show ¬ (lv ws).length < 2 by omega), Nat.add_sub_cancel]
  by_cases h : i ∈ sy ws
  · rw [if_pos h]; rfl
  · rw [if_neg h, (len_full (lv_up ws) (lv_nodup ws) h2 hk).2.2.2 i (fun h3 => h ((lv_perm ws).mem_iff.1 h3))]
theorem LB.put {w : World} {p q : Option Addr} {ws S : List Nat} {og m : Nat} {O : List Nat} {wr : World} (h : LB w p q ws S og m O wr) (hp : ∀ a, p = some a → a.block ≠ og) (hq : ∀ a, q = some a → a.block ≠ og) (hw : w.heap.size ≤ og) (i v : Nat) : LB w p q ws S og m (O.set i v) (wr.setCell ⟨og, i, none⟩ (.int .i64 (v : Int))) :=
  ⟨_root_.Go.Proofs.Ytbegngilbngnoaa.Ls.Rd.put h.P hp _, _root_.Go.Proofs.Ytbegngilbngnoaa.Ls.Rd.put h.Q hq _, by have := h.A.set i (.int .i64 (v : Int)); rwa [zs_up_set] at this, below_put h.B (a := ⟨og, i, none⟩) hw _⟩
theorem Fit.put {B : Nat} {S : List Nat} {W : Nat → Nat} {w : World} {x : Nat × Value} {t : Tr} (h : Fit B S W w x t) {a : Addr} (ha : a.block < B) (v : Value) : Fit B S W (w.setCell a v) x t := by
  obtain ⟨h1, g, h2, h3, h4⟩ := h
  exact ⟨h1, g, h2, h3, _root_.Go.Proofs.Ytbegngilbngnoaa.Ls.Rd.put h4 (fun q e => by cases e; show g ≠ a.block; omega) v⟩
theorem LvJ.put {ws : List Nat} {og : Nat} {ts : List Tr} {v : Value} {wr : World} (h : LvJ ws og ts v wr) (i : Nat) (u : Value) : LvJ ws og ts v (wr.setCell ⟨og, i, none⟩ u) := by
  obtain ⟨g, cap, h1, h2, h3, h4, xs, h5, h6⟩ := h
  exact ⟨g, cap, h1, h2, by simpa using h3, h4, xs, h5.imp fun _ _ h => h.put (a := ⟨og, i, none⟩) (Nat.lt_succ_self _) u, _root_.Go.Proofs.Ytbegngilbngnoaa.Ls.Rd.put h6 (fun q e => by cases e; show g ≠ og; omega) u⟩
set_option maxHeartbeats 16000000 in
set_option maxRecDepth 100000 in
theorem rlengths_main (ws : List Nat) (lm : Nat) (p : Option Addr) (c : Nat) (w : World) (hp : Rd w p (nums ws)) (hb : okL ws (lm : Int) = true) (hf : (sy ws).length ≤ 2 ^ lm) (hn2 : 2 ≤ (sy ws).length) :
    Calls Try.prog 9 #[.slice p ws.length c, .int .i64 (lm : Int)] w (IE w (lenR ws (lm : Int))) := by
  obtain ⟨i0, hi0, hz0, hz1, hz2⟩ := info_parts info_int
  have mixed : Try.prog.follows Departure.mixedOrders = true := by kernel_rfl
  have hb2 := hb
  unfold okL at hb2
  simp only [Bool.and_eq_true, decide_eq_true_eq] at hb2
  obtain ⟨⟨ho, g1⟩, g2⟩ := hb2
  have hl1 : 1 ≤ lm ∧ lm ≤ 15 := by omega
  have hl5 := okW_len ho
  have CR0 := rright_any ws p c w hp (by omega)
  rw [ho] at CR0
  replace CR0 := CR0.mono (R' := fun e w' => e = .returned (.bool true) ∧ w = w') fun e w' ⟨h1, h2⟩ => ⟨h1, h2.symm⟩
  have CS0 := rsymbols_any ws p c w hp (by omega)
  have hsl := sy_len ws
  have HOKW := Lib.hid ho
  obtain ⟨n, hn⟩ : ∃ n, n = (sy ws).length := ⟨_, rfl⟩
  obtain ⟨m, hm⟩ : ∃ m, m = ws.length := ⟨_, rfl⟩
  obtain ⟨x0, hx0⟩ : ∃ x0 : Nat, x0 = 2 ^ lm := ⟨_, rfl⟩
  have sh0 := shl_i64 lm hl1.2
  have HX0 := Lib.hid hx0
  rw [← hx0] at sh0 hf
  unfold IsP at CS0
  rw [← hn] at CS0 hsl hf hn2
  rw [← hm] at CR0 CS0 hl5 hsl ⊢
  have CR := Lib.hid CR0; have CS := Lib.hid CS0; have P := Lib.hid hp
  have F : Hid (lenR ws (lm : Int) = (lens ws lm, 0)) := Lib.hid (by
    unfold lenR
    rw [if_pos hb, Int.toNat_natCast, ← hx0, ← hn, if_neg (by omega)])
  have HN := Lib.hid hn; have HM := Lib.hid hm
  have e1 : decide ((lm : Int) < 1) = false := decide_eq_false (by omega)
  have e2 : decide ((15 : Int) < (lm : Int)) = false := decide_eq_false (by omega)
  have e3 : decide (15 < lm) = false := decide_eq_false (by omega)
  have e4 : decide (lm < 1) = false := decide_eq_false (by omega)
  have w0 : IntKind.u64.wrap ((lm : Int)) = (lm : Int) := IntWalk.u64_in _ (by omega)
  have d1 : decide ((x0 : Int) < (n : Int)) = false := decide_eq_false (by omega)
  have d2 : decide (x0 < n) = false := decide_eq_false (by omega)
  have d3 : ((n : Int) == 1) = false := by rw [beq_eq_false_iff_ne]; omega
  have d4 : (n == 1) = false := by rw [beq_eq_false_iff_ne]; omega
  have d5 : decide ((n : Int) < 2) = false := decide_eq_false (by omega)
  have d6 : decide (n < 2) = false := decide_eq_false (by omega)
  obtain ⟨M, hMk⟩ : ∃ M, M = madeCells (Value.int .i64 0).cells ((n : Int).toNat * i0.size) := ⟨_, rfl⟩
  have hmk : ∀ W : World, (Instr.makeSlice 23 (.int .i64 (n : Int)) (.int .i64 (n : Int))).run Try.prog W = .ok (.slice (some ⟨W.heap.size, 0, none⟩) n n) (W.alloc (.cells M 3)) := by
    intro W
    have := run_makeSlice W 23 3 i0 (.int .i64 0) Try.underlying23 hi0 hz0 .i64 .i64 (n : Int) (n : Int) (by omega) (by omega) (by rw [hz1]; omega) (by rw [hz2]; omega) (by omega)
    rw [this, ← hMk]
    have e1 : ((n : Int)).toNat = n := by omega
    rw [e1]
  have HML : Hid (M.toList = zs (up (List.replicate n 0))) := Lib.hid (by
    rw [hMk, hz1, Nat.mul_one]
    have e1 : ((n : Int)).toNat = n := by omega
    rw [e1]
    show (madeCells #[Value.int .i64 0] n).toList = _
    rw [toList_madeCells_one]
    simp [zs, up])
  have HMK := Lib.hid hmk
  have HP0 := Lib.hid hp
  have HF := Lib.hid hf; have HN2 := Lib.hid hn2; have HL5 := Lib.hid hl5; have HL1 := Lib.hid hl1; have HSL := Lib.hid hsl
  clear hp hb ho g1 g2 CR0 CS0 hn hm hx0 hMk hmk hf
  go_enter Try.func9, Try.ntmps9
  go_wp2_with fail
  refine CR.out.mono ?_
  rintro e w1 ⟨rfl, rfl⟩
  go_wp2_with fail
  refine CS.out.mono ?_
  rintro e w1 ⟨q, d, rfl, hd, hq, hnq, hb1⟩
  have Q := Lib.hid hq; have B1 := Lib.hid hb1
  clear hq hb1 hnq CR CS
  go_wp2_with (at_make; refine wpList_make_full _ rfl _ _ 23 rfl w1.heap.size 3 i0 (.int .i64 0) 1 Try.underlying23 hi0 hz0 hz1 .i64 .i64 (m : Int) (m : Int) m rfl rfl rfl rfl ?c1 ?c2 ?c3 ?_)
  case c1 => rw [hz2]; omega
  case c2 => unfold maxLen; omega
  case c3 => simp
  intro w2 hown2 hgr2
  have b2 : Below w1.heap.size w1 w2 := (Below.refl _ w1).grown hgr2 (Nat.le_refl _) (by simp)
  rw [toList_madeCells_one] at hown2
  obtain ⟨og, hog⟩ : ∃ og, og = w1.heap.size := ⟨_, rfl⟩
  have A0 : Arr w2 og 3 og m (zs (up (List.replicate m 0))) := by
    rw [hog]
    have : zs (up (List.replicate m 0)) = List.replicate m (Value.int .i64 0) := by simp [zs, up]
    rw [this]; exact hown2
  have HLB : Hid (LB w p q ws (sy ws) og m (List.replicate m 0) w2) := Lib.hid ⟨P.out.below (B1.out.trans (b2.mono B1.out.size)), Q.out.below b2, A0, B1.out.trans (b2.mono B1.out.size)⟩
  have HQ0 : Hid (∀ a, q = some a → a.block < og) := Lib.hid (fun a e => by
    obtain ⟨a', e', hl', _⟩ := Q.out 0 (by rw [zs_length, up_length, ← HN.out]; have := HN2.out; omega)
    rw [e] at e'; cases e'; rw [hog]; exact hl')
  have HOG : Hid (w.heap.size ≤ og ∧ og < w2.heap.size) := Lib.hid ⟨by rw [hog]; exact B1.out.size, A0.lt.2⟩
  have HNd : Hid ((sy ws).Nodup) := Lib.hid (sy_nodup ws)
  rw [← hog]
  clear hown2 hgr2 b2 hog Q B1 P A0 sh0 e1 e2 e3 e4 w0 d1 d2
  go_wp2_with fail
  go_loopw [8, 56] (fun v i wr => ∃ k : Nat, k ≤ n ∧ i = .int .i64 k ∧ Hid (Lv1 ws og k v wr) ∧ Hid (LB w p q ws (sy ws) og m (List.replicate m 0) wr) ∧ Hid (og < wr.heap.size)) (fun _ i _ => n - (intOf i).toNat)
  case atStart => exact ⟨0, Nat.zero_le _, rfl, Lib.hid (.inl ⟨rfl, rfl⟩), HLB, Lib.hid HOG.out.2⟩
  case round =>
    clear HLB
    obtain ⟨k, hk, rfl, HV, HL, HG⟩ := hrel
    by_cases hlt : k < n
    · have hkS : k < (sy ws).length := by rw [← HN.out]; exact hlt
      obtain ⟨aq, rfl, cq⟩ := rd_z HL.out.Q k (by rw [up_length]; exact hkS)
      rw [up_getD _ _ hkS] at cq
      have hiw := sy_lt (ws := ws) (i := (sy ws)[k]) (List.getElem_mem hkS)
      obtain ⟨i, hi⟩ : ∃ i, i = (sy ws)[k] := ⟨_, rfl⟩
      have hgi : (sy ws).getD k 0 = i := by rw [gd hkS, hi]
      rw [hgi] at cq
      rw [← hi] at hiw
      obtain ⟨ap, rfl, cp0⟩ := rd_num HL.out.P i hiw.1
      obtain ⟨y, hy⟩ : ∃ y, y = ws.getD i 0 := ⟨_, rfl⟩
      rw [← hy] at cp0
      have cp : wr.drew.cell? (ap.add i) = some (.int .u64 (y : Nat)) := cp0
      have hapb : (ap.add i).block < wr.heap.size := by
        obtain ⟨a', e', hl', _⟩ := HL.out.P i (by rw [nums_length]; exact hiw.1)
        cases e'; rw [add_block]; exact hl'
      have ca : ∀ W', Below wr.heap.size wr W' → W'.cell? (ap.add i) = some (.int .u64 (y : Nat)) := fun W' h => by rw [h.cell hapb]; exact cp0
      have bM : Below wr.heap.size wr (wr.alloc (.cells M 3)) := (Below.refl _ _).alloc (Nat.le_refl _) _
      have bX : Below wr.heap.size wr (wr.alloc (.cells #[.int .u64 0, .slice none 0 0] 45)) := (Below.refl _ _).alloc (Nat.le_refl _) _
      have cp1 := ca _ bM
      have cp2 := ca _ bX
      have cp3 := ca _ (bM.alloc (by simp) (.cells #[.int .u64 0, .slice none 0 0] 45))
      have cp4 := ca _ (bX.alloc (by simp) (.cells M 3))
      have HI := Lib.hid hgi; have HY := Lib.hid hy
      have him : (i : Int) < (m : Int) := by rw [HM.out]; have := hiw.1; omega
      have hi00 : (0 : Int) ≤ (i : Int) := by omega
      have k0 : (0 : Int) ≤ (k : Int) := by omega
      have k1 : (k : Int) < (n : Int) := by omega
      have hmk := HMK.out
      have HPUT := Lib.hid (fun (W : World) (x : Nat × Value) (hb : Below wr.heap.size wr W) (hx : Fit (og + 1) (sy ws) (wf ws) W x (.lf i)) => put_leaf (W := W) (x := x) hkS (by have := HN.out; have := HSL.out; have := HL5.out; omega) HV.out HG.out hb (by rw [← hi]; exact hx))
      have HCN : Hid ((List.replicate n 0).set k 1 = cnts (sy ws) (.lf i)) := Lib.hid (by rw [HN.out, hi]; exact cnts_lf HNd.out hkS)
      have HLT := Lib.hid hlt
      clear hi hy hgi hiw cp0 hlt ca bM bX hapb
      go_wp2_with fail
      go_region
      all_goals (first
        | (obtain ⟨w5, hw5⟩ : ∃ w5, w5 = ((wr.alloc (.cells M 3)).alloc (.cells #[.int .u64 (y : Nat), .slice (some ⟨wr.heap.size, 0, none⟩) n n] 45)).drew := ⟨_, rfl⟩
           rw [← hw5]
           obtain ⟨f1, f2, f3, f4⟩ := two_allocs wr (.cells M 3) (.cells #[.int .u64 (y : Nat), .slice (some ⟨wr.heap.size, 0, none⟩) n n] 45)
           rw [← hw5] at f1 f2 f3 f4
           obtain ⟨kb, hkb⟩ : ∃ kb, kb = wr.heap.size + 1 := ⟨_, rfl⟩
           obtain ⟨g, hg⟩ : ∃ g, g = wr.heap.size := ⟨_, rfl⟩
           rw [← hkb] at f2 ⊢
           have HGE : Hid (g = wr.heap.size ∨ g = wr.heap.size + 1) := Lib.hid (by omega)
           have HKE : Hid (kb ≠ g ∧ wr.heap.size ≤ kb) := Lib.hid (by omega)
           rw [← hg] at f1 f2 ⊢
           have FK := Lib.hid f2; have FM := Lib.hid f1)
        | (obtain ⟨w5, hw5⟩ : ∃ w5, w5 = ((wr.alloc (.cells #[.int .u64 (y : Nat), .slice (some ⟨wr.heap.size + 1, 0, none⟩) n n] 45)).alloc (.cells M 3)).drew := ⟨_, rfl⟩
           rw [← hw5]
           obtain ⟨f1, f2, f3, f4⟩ := two_allocs wr (.cells #[.int .u64 (y : Nat), .slice (some ⟨wr.heap.size + 1, 0, none⟩) n n] 45) (.cells M 3)
           rw [← hw5] at f1 f2 f3 f4
           obtain ⟨kb, hkb⟩ : ∃ kb, kb = wr.heap.size := ⟨_, rfl⟩
           obtain ⟨g, hg⟩ : ∃ g, g = wr.heap.size + 1 := ⟨_, rfl⟩
           rw [← hg] at f1 f2 ⊢
           have HGE : Hid (g = wr.heap.size ∨ g = wr.heap.size + 1) := Lib.hid (by omega)
           have HKE : Hid (kb ≠ g ∧ wr.heap.size ≤ kb) := Lib.hid (by omega)
           rw [← hkb] at f1 ⊢
           have FK := Lib.hid f1; have FM := Lib.hid f2))
      all_goals
        have B5 := Lib.hid f3
        have hA : Hid (Arr w5 g 3 g n (zs (up (List.replicate n 0)))) := Lib.hid (by
          have hl : (zs (up (List.replicate n 0))).length = n := by rw [zs_length, up_length, List.length_replicate]
          have hsz : M.size = n := by rw [← Array.length_toList, HML.out, hl]
          have h5 := HL5.out; have h6 := HSL.out
          refine ⟨by rw [hl]; omega, .inr ⟨g, n, M, rfl, Nat.le_refl _, FM.out, Nat.le_refl _, by unfold maxLen; omega, by rw [hsz]; omega, ?_⟩⟩
          rw [List.take_of_length_le (by rw [Array.length_toList, hsz]; omega), HML.out])
        clear cp cp1 cp2 cp3 cp4 hmk hw5 hkb hg f1 f2 f3 f4 FM
        have l1 : w5.cell? ⟨kb, 1, none⟩ = some (.slice (some ⟨g, 0, none⟩) n n) := by simp [World.cell?, FK.out]
        have cg := hA.out.cell HLT.out
        have fg := hA.out.free k
        generalize (zs (up (List.replicate n 0))).getD k (.bool false) = ov at cg
        have K6 : (w5.setCell ⟨g, k, none⟩ (.int .i64 1)).heap[kb]? = some (.cells #[.int .u64 (y : Nat), .slice (some ⟨g, 0, none⟩) n n] 45 (0, 0)) := (Below.heap_setCell _ _ _ _ (by show kb ≠ g; exact HKE.out.1)).trans FK.out
        have q0 : (w5.setCell ⟨g, k, none⟩ (.int .i64 1)).cell? ⟨kb, 0, none⟩ = some (.int .u64 (y : Nat)) := by simp [World.cell?, K6]
        have q1 : (w5.setCell ⟨g, k, none⟩ (.int .i64 1)).cell? ⟨kb, 1, none⟩ = some (.slice (some ⟨g, 0, none⟩) n n) := by simp [World.cell?, K6]
        have b6 : Below wr.heap.size wr (w5.setCell ⟨g, k, none⟩ (.int .i64 1)) := below_put B5.out (a := ⟨g, k, none⟩) (by show wr.heap.size ≤ g; have := HGE.out; omega) (.int .i64 1)
        have B6 := Lib.hid b6
        have FIT : Hid (Fit (og + 1) (sy ws) (wf ws) (w5.setCell ⟨g, k, none⟩ (.int .i64 1)) (y, .slice (some ⟨g, 0, none⟩) n n) (.lf i)) := Lib.hid (by
          refine ⟨?_, g, by rw [← HN.out], by have := HG.out; have := HGE.out; omega, ?_⟩
          · show y = wf ws i
            exact HY.out
          · have h9 := hA.out.set k (.int .i64 (1 : Nat))
            rw [zs_up_set, HCN.out] at h9
            exact h9.rd)
        have CP := Lib.hid (HPUT.out _ (y, .slice (some ⟨g, 0, none⟩) n n) b6 FIT.out)
        have HZ6 : Hid (wr.heap.size ≤ (w5.setCell ⟨g, k, none⟩ (.int .i64 1)).heap.size) := Lib.hid b6.size
        clear K6 b6
        go_wp2_with fail
        refine CP.out.mono ?_
        rintro e w7 ⟨v7, rfl, hv7, hb7⟩
        have b7 : Below wr.heap.size wr w7 := B6.out.trans (hb7.mono HZ6.out)
        have HV7 := Lib.hid (lv1_of (k := k + 1) (by have := HN.out; have := HLT.out; omega) (by omega) hv7)
        have HL7 := Lib.hid (HL.out.below b7)
        have HG7 : Hid (og < w7.heap.size) := Lib.hid (by have := HG.out; have := b7.size; omega)
        have hkn : k + 1 ≤ n := HLT.out
        clear hv7 hb7 b7 CP FIT B6 B5 hA HPUT HZ6
        go_wp2_with fail
        go_roundw
        case rel => exact ⟨k + 1, hkn, by go_num, HV7, HL7, HG7⟩
        case measure => simp [intOf]; omega
    · obtain rfl : k = n := by omega
      have k1 : ¬ (k : Int) < (k : Int) := by omega
      have HLV : Hid (LvJ ws og (lev (wf ws) (lv ws) 0) u8 wr) := Lib.hid (by
        rcases HV.out with ⟨h0, _⟩ | ⟨_, g, cap, h1, h2, h3, h4, h5⟩
        · have := HN2.out; omega
        · have e9 : lfs ws k = lev (wf ws) (lv ws) 0 := by rw [HN.out]; exact lfs_all ws
          have e8 : (lev (wf ws) (lv ws) 0).length = k := by rw [← e9]; exact lfs_length (by rw [← HN.out]; exact Nat.le_refl _)
          rw [e9] at h5
          exact ⟨g, cap, by rw [e8]; exact h1, by rw [e8]; exact h2, h3, h4, h5⟩)
      clear HV hlt hk HMK HML
      go_wp2_with fail
      obtain ⟨L, hL⟩ : ∃ L : Nat → List Tr, L = fun j => lev (wf ws) (lv ws) j := ⟨_, rfl⟩
      have HLE : Hid (∀ j, L j = lev (wf ws) (lv ws) j) := Lib.hid (fun j => by rw [hL])
      have HLV0 : Hid (LvJ ws og (L 0) u8 wr) := Lib.hid (by rw [HLE.out]; exact HLV.out)
      have HVN : Hid ((lv ws).length = k) := Lib.hid (by rw [lv_len, ← HN.out])
      clear HLV hL
      go_loopw [12, 13] (fun v i wr => ∃ I : Nat, I + 1 ≤ lm ∧ i = .int .i64 ((I + 1 : Nat) : Int) ∧ Hid (LvJ ws og (L I) v wr) ∧ Hid (LvJ ws og (L 0) u8 wr) ∧ Hid (LB w p q ws (sy ws) og m (List.replicate m 0) wr) ∧ Hid (og < wr.heap.size)) (fun _ i _ => lm - (intOf i).toNat)
      case atStart => exact ⟨0, HL1.out.1, rfl, HLV0, HLV0, HL, HG⟩
      case round =>
        clear HLV0 HL HG
        obtain ⟨I, hI, rfl, HV, HV0, HL, HG⟩ := hrel
        have hl15 := HL1.out
        obtain ⟨I1, hI1⟩ : ∃ I1, I1 = I + 1 := ⟨_, rfl⟩
        rw [← hI1] at hI ⊢
        have HI1 := Lib.hid hI1
        by_cases hlt : I1 < lm
        · have t1 : decide ((I1 : Int) < (lm : Int)) = true := decide_eq_true (by omega)
          have t2 : decide (I1 < lm) = true := decide_eq_true hlt
          obtain ⟨gl, cl, rfl, hcl, hgl, hgo, hit⟩ := HV.out
          obtain ⟨ml, hml⟩ : ∃ ml, ml = (L I).length := ⟨_, rfl⟩
          have HML := Lib.hid hml
          have hmlb : ml ≤ 2 * k := by rw [hml, HLE.out]; have := lev_le (wf ws) (lv ws) I; rw [HVN.out] at this; exact this
          rw [← hml] at hcl ⊢
          have HLT := Lib.hid hlt
          have HVm : Hid (LvJ ws og (L I) (.slice (some ⟨gl, 0, none⟩) ml cl) wr) := Lib.hid (by rw [hml]; exact HV.out)
          clear hcl hgl hgo hit hml hI1 hlt
          go_wp2_with fail
          have HSTART : Hid (LvJ ws og (nx ws I 0) u8 wr) := Lib.hid (by
            have : nx ws I 0 = lev (wf ws) (lv ws) 0 := rfl
            rw [this, ← HLE.out]; exact HV0.out)
          go_loopw [14, 15] (fun v z wr => ∃ j : Nat, 2 * j ≤ ml + 1 ∧ j ≤ ml / 2 ∧ z = .int .i64 ((2 * j : Nat) : Int) ∧ Hid (LvJ ws og (nx ws I j) v wr) ∧ Hid (LvJ ws og (L I) (.slice (some ⟨gl, 0, none⟩) ml cl) wr) ∧ Hid (LvJ ws og (L 0) u8 wr) ∧ Hid (LB w p q ws (sy ws) og m (List.replicate m 0) wr) ∧ Hid (og < wr.heap.size)) (fun _ z _ => ml + 3 - (intOf z).toNat)
          case atStart => exact ⟨0, Nat.zero_le _, Nat.zero_le _, rfl, HSTART, HVm, HV0, HL, HG⟩
          case round =>
            clear HSTART HV HVm HV0 HL HG
            obtain ⟨j, hj, hj2, rfl, HX, HV, HV0, HL, HG⟩ := hrel
            obtain ⟨K, hK⟩ : ∃ K, K = 2 * j := ⟨_, rfl⟩
            obtain ⟨K1, hK1⟩ : ∃ K1, K1 = K + 1 := ⟨_, rfl⟩
            obtain ⟨K2, hK2⟩ : ∃ K2, K2 = K + 2 := ⟨_, rfl⟩
            rw [← hK]
            have hkb : k ≤ 512 := by have := HL5.out; have := HSL.out; omega
            have ek1 : (K : Int) + 1 = (K1 : Int) := by omega
            have ek2 : (K : Int) + 2 = (K2 : Int) := by omega
            have wk1 : IntKind.i64.wrap ((K1 : Int)) = (K1 : Int) := IntWalk.i64_in _ (by omega)
            have wk2 : IntKind.i64.wrap ((K2 : Int)) = (K2 : Int) := IntWalk.i64_in _ (by omega)
            by_cases hlt : K1 < ml
            · have t1 : decide ((K1 : Int) < (ml : Int)) = true := decide_eq_true (by omega)
              have t2 : decide (K1 < ml) = true := decide_eq_true hlt
              obtain ⟨gl', cl', he, hcl, hgl, hgo, hit⟩ := HV.out
              have hgg : gl' = gl := by simp only [Value.slice.injEq, Option.some.injEq] at he; cases he.1; rfl
              subst hgg
              have hlI : (L I).length = ml := HML.out.symm
              have hKl : K < (L I).length := by rw [hlI]; omega
              have hK1l : K1 < (L I).length := by rw [hlI]; exact hlt
              obtain ⟨⟨xw, xv⟩, hx, cx0, cx1⟩ := hit.at K hKl
              obtain ⟨⟨yw, yv⟩, hy, cy0, cy1⟩ := hit.at K1 hK1l
              have hnx : nx ws I (j + 1) = put (Tr.wt (wf ws)) (.nd (L I)[K] (L I)[K1]) (nx ws I j) := by
                subst hK; subst hK1
                have := nx_succ (ws := ws) (I := I) (j := j) (by rw [← HLE.out, hlI]; exact hlt)
                simp only [← HLE.out] at this
                exact this
              have hnl : (nx ws I j).length ≤ 1000000 := by
                rw [nx_length ws I j (by rw [← HLE.out, hlI]; exact hj2), HVN.out]; omega
              have HBO := Lib.hid (fun (W : World) (hb : Below wr.heap.size wr W) => both_pack (I := I) (W := W) HOKW.out (by have := HLT.out; have := HI1.out; omega) (by have := HG.out; have := hb.size; omega) (by rw [← HLE.out]; exact List.getElem_mem hKl) (by rw [← HLE.out]; exact List.getElem_mem hK1l) (hx.below hb) (hy.below hb))
              have HPU := Lib.hid (fun (W : World) (z : Nat × Value) (hb : Below wr.heap.size wr W) (hz : Fit (og + 1) (sy ws) (wf ws) W z (.nd (L I)[K] (L I)[K1])) => by
                have := put_pack (W := W) (x := z) (nx_up ws I j) hnl HX.out HG.out hb hz
                rw [← hnx] at this
                exact this)
              have HBB : Hid (Below wr.heap.size wr wr) := Lib.hid (Below.refl _ _)
              have HD : Hid (∀ W, Below wr.heap.size wr W → Below wr.heap.size wr W.drew) := Lib.hid (fun W h => h.drew)
              have HT : Hid (∀ W W', Below wr.heap.size wr W → Below W.heap.size W W' → Below wr.heap.size wr W') := Lib.hid (fun W W' h hb => h.trans (hb.mono h.size))
              have HK : Hid (∀ W, Below wr.heap.size wr W → Below wr.heap.size wr W ∧ W.cell? ⟨gl', K * 2, none⟩ = some (.int .u64 (xw : Int)) ∧ W.cell? ⟨gl', K * 2 + 1, none⟩ = some xv ∧ W.cell? ⟨gl', K1 * 2, none⟩ = some (.int .u64 (yw : Int)) ∧ W.cell? ⟨gl', K1 * 2 + 1, none⟩ = some yv) := Lib.hid (fun W h => ⟨h, by rw [h.cell (p := ⟨gl', K * 2, none⟩) hgl]; exact cx0, by rw [h.cell (p := ⟨gl', K * 2 + 1, none⟩) hgl]; exact cx1, by rw [h.cell (p := ⟨gl', K1 * 2, none⟩) hgl]; exact cy0, by rw [h.cell (p := ⟨gl', K1 * 2 + 1, none⟩) hgl]; exact cy1⟩)
              have m0 : (0 : Int) ≤ (K : Int) := by omega
              have m1 : (K : Int) < (ml : Int) := by omega
              have m2 : (0 : Int) ≤ (K1 : Int) := by omega
              have m3 : (K1 : Int) < (ml : Int) := by omega
              have HJ : Hid (2 * (j + 1) ≤ ml + 1 ∧ j + 1 ≤ ml / 2 ∧ K2 = 2 * (j + 1)) := Lib.hid (by omega)
              clear he hcl hgo hit hx hy hnx hnl cx0 cx1 cy0 cy1 hlt hK hK1 hK2 hj hj2 hlI
              go_wp2_with fail
              go_region_held3 (fun W => Below wr.heap.size wr W ∧ W.cell? ⟨gl', K * 2, none⟩ = some (.int .u64 (xw : Int)) ∧ W.cell? ⟨gl', K * 2 + 1, none⟩ = some xv ∧ W.cell? ⟨gl', K1 * 2, none⟩ = some (.int .u64 (yw : Int)) ∧ W.cell? ⟨gl', K1 * 2 + 1, none⟩ = some yv) ((refine HK.out _ ?_; repeat (first | exact HBB.out | assumption | apply HD.out)))
                (first
                  | (go_at_call 23; (with_reducible refine (HBO.out _ (by repeat (first | exact HBB.out | assumption | apply HD.out))).mono ?_); rintro e wo ⟨z, rfl, hz, hb1⟩; have hw1 := HT.out _ _ (by repeat (first | exact HBB.out | assumption | apply HD.out)) hb1; clear hb1)
                  | (go_at_call 22; (with_reducible refine (HPU.out _ _ (by repeat (first | exact HBB.out | assumption | apply HD.out)) (by assumption)).mono ?_); rintro e we ⟨v9, rfl, hv9, hb2⟩; have hw2 := HT.out _ _ (by repeat (first | exact HBB.out | assumption | apply HD.out)) hb2; have HV9 := Lib.hid hv9; clear hb2 hv9))
              all_goals
                have bf := Lib.hid (show Below wr.heap.size wr _ by (first | exact hw2 | assumption))
                have HV3 := Lib.hid (HV.out.below bf.out)
                have HV4 := Lib.hid (HV0.out.below bf.out)
                have HL4 := Lib.hid (HL.out.below bf.out)
                have HG4 := Lib.hid (Nat.lt_of_lt_of_le HG.out bf.out.size)
                clear HBO HPU HK HT
                go_wp2_with fail
                go_roundw
                case rel => exact ⟨j + 1, HJ.out.1, HJ.out.2.1, by rw [← HJ.out.2.2], HV9, HV3, HV4, HL4, HG4⟩
                case measure => simp [intOf]; omega
            · have t1 : decide ((K1 : Int) < (ml : Int)) = false := decide_eq_false (by omega)
              have t2 : decide (K1 < ml) = false := decide_eq_false hlt
              have hnxa : nx ws I j = L (I + 1) := by
                rw [HLE.out]
                exact nx_all ws I j (by rw [← HLE.out, ← HML.out]; omega)
              have HVX := Lib.hid (by have := HX.out; rw [hnxa] at this; exact this : LvJ ws og (L (I + 1)) u14 wr)
              obtain ⟨I2, hI2⟩ : ∃ I2, I2 = I1 + 1 := ⟨_, rfl⟩
              have ei : (I1 : Int) + 1 = (I2 : Int) := by omega
              have wi : IntKind.i64.wrap ((I2 : Int)) = (I2 : Int) := IntWalk.i64_in _ (by omega)
              have HI2 : Hid (I2 = I + 1 + 1 ∧ I + 1 + 1 ≤ lm) := Lib.hid (by have := HLT.out; have := HI1.out; omega)
              have hi2l : I1 < I2 ∧ I2 ≤ lm := by have := HLT.out; omega
              clear hK hK1 hK2 hj hj2 hlt hnxa hI2
              go_wp2_with fail
              go_roundw
              case rel => exact ⟨I + 1, HI2.out.2, by rw [HI2.out.1], HVX, HV0, HL, HG⟩
              case measure => simp [intOf]; omega
        · obtain rfl : I1 = lm := by omega
          have t1 : decide ((I1 : Int) < (I1 : Int)) = false := decide_eq_false (by omega)
          obtain ⟨gl, cl, rfl, hcl, hgl, hgo, hit⟩ := HV.out
          have hI0 : I + 1 = I1 := HI1.out.symm
          have hlong : 2 * k - 2 ≤ (L I).length := by
            have := lev_long (W := wf ws) (L := lv ws) I (by rw [HVN.out, hI0, ← HX0.out]; exact HF.out)
            rw [HVN.out, ← HLE.out] at this
            exact this
          obtain ⟨T, hT⟩ : ∃ T, T = L I := ⟨_, rfl⟩
          obtain ⟨ml, hml⟩ : ∃ ml, ml = (L I).length := ⟨_, rfl⟩
          have HTT := Lib.hid hT
          have HML := Lib.hid (show T.length = ml by rw [hT, hml])
          have HVT : Hid (LvJ ws og T (.slice (some ⟨gl, 0, none⟩) ml cl) wr) := Lib.hid (by rw [hT, hml]; exact HV.out)
          have hmlb : ml ≤ 2 * k := by rw [hml, HLE.out]; have := lev_le (wf ws) (lv ws) I; rw [HVN.out] at this; exact this
          rw [← hml] at hcl hlong ⊢
          have hk2 := HN2.out
          have hkb : k ≤ 512 := by have := HL5.out; have := HSL.out; omega
          obtain ⟨r, hr⟩ : ∃ r, r = 2 * k - 2 := ⟨_, rfl⟩
          obtain ⟨kk2, hkk2⟩ : ∃ kk2, kk2 = 2 * k := ⟨_, rfl⟩
          have v1 : (2 : Int) * (k : Int) = (kk2 : Int) := by omega
          have v2 : IntKind.i64.wrap ((kk2 : Int)) = (kk2 : Int) := IntWalk.i64_in _ (by omega)
          have v3 : (kk2 : Int) - 2 = (r : Int) := by omega
          have v4 : IntKind.i64.wrap ((r : Int)) = (r : Int) := IntWalk.i64_in _ (by omega)
          have v5 : (0 : Int) ≤ (r : Int) := by omega
          have v6 : (r : Int) ≤ (cl : Int) := by omega
          have v7 : r ≤ ml := by omega
          have HR2 := Lib.hid hr
          have HT14 : Hid (∀ t ∈ T, t.sz ≤ 16384) := Lib.hid (fun t ht => by
            rw [hT, HLE.out] at ht
            have h1 := lev_sz I t ht
            have h2 : 2 ^ I ≤ 2 ^ 14 := Nat.pow_le_pow_right (by omega) (by have := HL1.out; omega)
            have h4 : (2 : Nat) ^ 14 = 16384 := by decide
            omega)
          have HPB : Hid (∀ a, p = some a → a.block ≠ og) := Lib.hid (fun a e => by
            have h9 := HSL.out
            obtain ⟨a', e', hl', _⟩ := HP0.out 0 (by rw [nums_length, ← HM.out]; omega)
            rw [e] at e'; cases e'
            have := HOG.out; omega)
          have HQB : Hid (∀ a, q = some a → a.block ≠ og) := Lib.hid (fun a e => by
            have := HQ0.out a e; omega)
          have HLA : Hid (LB w p q ws (sy ws) og m (acc ws T 0) wr) := Lib.hid (by rw [← acc_zero, ← HM.out]; exact HL.out)
          have HFIN : Hid (acc ws T r = lens ws I1) := Lib.hid (by
            rw [hT, HLE.out, hr, ← hI0, ← HVN.out]
            exact lens_acc (by rw [HVN.out]; exact hk2) (by rw [HVN.out, hI0, ← HX0.out]; exact HF.out))
          clear hcl hgl hgo hit hlong hT hml hr hkk2 HV HV0 HL hI0 hI1
          go_wp2_with fail
          go_loopw [111] (fun z wr => ∃ j : Nat, j ≤ r ∧ z = .int .i64 j ∧ Hid (LB w p q ws (sy ws) og m (acc ws T j) wr) ∧ Hid (LvJ ws og T (.slice (some ⟨gl, 0, none⟩) ml cl) wr) ∧ Hid (og < wr.heap.size)) (fun z _ => r - (intOf z).toNat)
          case atStart => exact ⟨0, Nat.zero_le _, rfl, HLA, HVT, HG⟩
          case round =>
            clear HLA HVT HG
            obtain ⟨j, hj, rfl, HL, HV, HG⟩ := hrel
            by_cases hlt : j < r
            · have hjT : j < T.length := by rw [HML.out]; omega
              obtain ⟨gl', cl', he, hcl, hgl, hgo, hit⟩ := HV.out
              have hgg : gl' = gl := by simp only [Value.slice.injEq, Option.some.injEq] at he; cases he.1; rfl
              subst hgg
              obtain ⟨⟨xw, xv⟩, hx, cx0, cx1⟩ := hit.at j hjT
              obtain ⟨hxw, gx, hxv, hgx, hxr⟩ := hx
              simp only at hxv cx1
              subst hxv
              have j0 : (0 : Int) ≤ (j : Int) := by omega
              have j1 : (j : Int) < (r : Int) := by omega
              obtain ⟨bx, hbx⟩ : ∃ bx, bx = wr.heap.size := ⟨_, rfl⟩
              obtain ⟨wb, hwb⟩ : ∃ wb, wb = wr.alloc (.cells #[.int .u64 (xw : Int), .slice (some ⟨gx, 0, none⟩) k k] 45) := ⟨_, rfl⟩
              have bb : Below wr.heap.size wr wb := by rw [hwb]; exact (Below.refl _ _).alloc (Nat.le_refl _) _
              have FX : Hid (wb.heap[bx]? = some (.cells #[.int .u64 (xw : Int), .slice (some ⟨gx, 0, none⟩) k k] 45 (0, 0))) := Lib.hid (by rw [hwb, hbx]; exact heap_alloc_new wr _)
              have HLb : Hid (LB w p q ws (sy ws) og m (acc2 ws T j 0) wb) := Lib.hid (by rw [acc2_zero]; exact HL.out.below bb)
              have HVb := Lib.hid (HV.out.below bb)
              have HXb := Lib.hid (hxr.below bb)
              have HBO : Hid (og < bx ∧ og < gx) := Lib.hid (by have := HG.out; omega)
              have HGb : Hid (og < wb.heap.size) := Lib.hid (Nat.lt_of_lt_of_le HG.out bb.size)
              have HWB := Lib.hid hwb; have HBX := Lib.hid hbx
              have HJT : Hid (j < T.length ∧ j < r) := Lib.hid ⟨hjT, hlt⟩
              have HSN : Hid ((sy ws).length = k) := Lib.hid HN.out.symm
              have cx1' : wr.cell? ⟨gl', j * 2 + 1, none⟩ = some (.slice (some ⟨gx, 0, none⟩) k k) := by rw [← HSN.out]; exact cx1
              have HCX : Hid (∀ q9, q9 < k → (T[j]).cnt ((sy ws).getD q9 0) = (cnts (sy ws) T[j]).getD q9 0) := Lib.hid (fun q9 h => by
                have h2 : q9 < (sy ws).length := by rw [HSN.out]; exact h
                rw [gd h2, cnts, List.getD_eq_getElem?_getD, List.getElem?_map, List.getElem?_eq_getElem h2]; rfl)
              clear he hcl hgl hgo hit hxw hgx hxr cx1 hwb hbx bb hlt
              go_wp2_with fail
              rw [← HBX.out, ← HWB.out]
              have HB0 : Hid (Below wr.heap.size wr wb) := Lib.hid (by rw [HWB.out]; exact (Below.refl _ _).alloc (Nat.le_refl _) _)
              go_loopw [117] (fun z wq => ∃ kk : Nat, kk ≤ k ∧ z = .int .i64 kk ∧ Hid (wq.heap[bx]? = some (.cells #[.int .u64 (xw : Int), .slice (some ⟨gx, 0, none⟩) k k] 45 (0, 0))) ∧ Hid (LB w p q ws (sy ws) og m (acc2 ws T j kk) wq) ∧ Hid (LvJ ws og T (.slice (some ⟨gl', 0, none⟩) ml cl) wq) ∧ Hid (Rd wq (some ⟨gx, 0, none⟩) (zs (up (cnts (sy ws) T[j])))) ∧ Hid (og < wq.heap.size)) (fun z _ => k - (intOf z).toNat)
              case atStart => exact ⟨0, Nat.zero_le _, rfl, FX, HLb, HVb, HXb, HGb⟩
              case round =>
                clear FX HLb HVb HXb HGb
                obtain ⟨kk, hkk, rfl, HX, HL, HV, HC, HG⟩ := hrel
                have hbo := HBO.out
                by_cases hlt : kk < k
                · have hkS : kk < (sy ws).length := by rw [HSN.out]; exact hlt
                  obtain ⟨aq, rfl, cq0⟩ := rd_z HL.out.Q kk (by rw [up_length]; exact hkS)
                  rw [up_getD _ _ hkS] at cq0
                  obtain ⟨i, hi⟩ : ∃ i, i = (sy ws).getD kk 0 := ⟨_, rfl⟩
                  have hgi : (sy ws)[kk] = i := by rw [hi, gd hkS]
                  have hiw := sy_lt (ws := ws) (i := (sy ws)[kk]) (List.getElem_mem hkS)
                  rw [hgi] at hiw
                  rw [← hi] at cq0
                  have hiM : i < m := by rw [HM.out]; exact hiw.1
                  obtain ⟨old, hold⟩ : ∃ old, old = sum (Tr.cnt i) (T.take j) := ⟨_, rfl⟩
                  obtain ⟨ct, hct⟩ : ∃ ct, ct = (T[j]).cnt i := ⟨_, rfl⟩
                  have hoa : (acc2 ws T j kk).getD i 0 = old := by
                    have := acc2_at (ws := ws) (T := T) (j := j) hkS
                    rw [hgi] at this; rw [this, hold]
                  have hcc : (cnts (sy ws) T[j]).getD kk 0 = ct := by
                    rw [← HCX.out kk hlt, ← hi, hct]
                  have hacl : i < (acc2 ws T j kk).length := by unfold acc2; rw [List.length_map, List.length_range]; exact hiw.1
                  have cg0 := HL.out.A.cell hiM
                  have ezs : (zs (up (acc2 ws T j kk))).getD i (.bool false) = .int .i64 (old : Nat) := by
                    rw [← hoa]
                    simp [zs, up, List.getD_eq_getElem?_getD, hacl]
                  rw [ezs] at cg0
                  obtain ⟨ac, eac, cc0⟩ := rd_z HC.out kk (by rw [up_length, cnts_length]; exact hkS)
                  cases eac
                  rw [up_getD _ _ (by rw [cnts_length]; exact hkS), hcc, Addr.add_lit, Nat.zero_add] at cc0
                  obtain ⟨z9, hz9⟩ : ∃ z9, z9 = old + ct := ⟨_, rfl⟩
                  have hb1 : old ≤ 1024 * 16384 := by
                    rw [hold]
                    refine Nat.le_trans (sum_bound fun t ht => Nat.le_trans (cnt_sz i t) (HT14.out t (List.mem_of_mem_take ht))) (Nat.mul_le_mul_right _ ?_)
                    rw [List.length_take]
                    have := HJT.out; have := HR2.out; omega
                  have hb2 : ct ≤ 16384 := by rw [hct]; exact Nat.le_trans (cnt_sz i _) (HT14.out _ (List.getElem_mem _))
                  have ez : (old : Int) + (ct : Int) = (z9 : Int) := by omega
                  have wz : IntKind.i64.wrap ((z9 : Int)) = (z9 : Int) := IntWalk.i64_in _ (by omega)
                  have HSET : Hid ((acc2 ws T j kk).set i z9 = acc2 ws T j (kk + 1)) := Lib.hid (by
                    have := acc2_succ (ws := ws) (T := T) (j := j) hkS HJT.out.1
                    rw [hgi, ← hold, ← hct, ← hz9] at this
                    exact this)
                  have cq : wr.cell? (aq.add kk) = some (.int .i64 (i : Nat)) := cq0
                  have cg : wr.drew.cell? ⟨og, i, none⟩ = some (.int .i64 (old : Nat)) := cg0
                  have fg : wr.drew.frozen? ⟨og, i, none⟩ = false := HL.out.A.free i
                  have cc : wr.drew.cell? ⟨gx, kk, none⟩ = some (.int .i64 (ct : Nat)) := cc0
                  have l1 : wr.drew.cell? ⟨bx, 1, none⟩ = some (.slice (some ⟨gx, 0, none⟩) k k) := by show wr.cell? _ = _; simp [World.cell?, HX.out]
                  have b0 : Below wr.heap.size wr wr.drew := (Below.refl _ wr).drew
                  have HL2 : Hid (LB w p (some aq) ws (sy ws) og m (acc2 ws T j (kk + 1)) (wr.drew.setCell ⟨og, i, none⟩ (.int .i64 (z9 : Nat)))) := Lib.hid (by
                    rw [← HSET.out]
                    exact (HL.out.below b0).put HPB.out HQB.out HOG.out.1 i z9)
                  have HV2 : Hid (LvJ ws og T (.slice (some ⟨gl', 0, none⟩) ml cl) (wr.drew.setCell ⟨og, i, none⟩ (.int .i64 (z9 : Nat)))) := Lib.hid ((HV.out.below b0).put i _)
                  have HC2 : Hid (Rd (wr.drew.setCell ⟨og, i, none⟩ (.int .i64 (z9 : Nat))) (some ⟨gx, 0, none⟩) (zs (up (cnts (sy ws) T[j])))) := Lib.hid (_root_.Go.Proofs.Ytbegngilbngnoaa.Ls.Rd.put (HC.out.below b0) (fun q e => by cases e; show gx ≠ og; omega) _)
                  have HX2 : Hid ((wr.drew.setCell ⟨og, i, none⟩ (.int .i64 (z9 : Nat))).heap[bx]? = some (.cells #[.int .u64 (xw : Int), .slice (some ⟨gx, 0, none⟩) k k] 45 (0, 0))) := Lib.hid ((Below.heap_setCell _ _ _ _ (by show bx ≠ og; omega)).trans HX.out)
                  have HG2 : Hid (og < (wr.drew.setCell ⟨og, i, none⟩ (.int .i64 (z9 : Nat))).heap.size) := Lib.hid (by simpa using HG.out)
                  have k0 : (0 : Int) ≤ (kk : Int) := by omega
                  have k1 : (kk : Int) < (k : Int) := by omega
                  have i0' : (0 : Int) ≤ (i : Int) := by omega
                  have i1' : (i : Int) < (m : Int) := by omega
                  have HKK : Hid (kk + 1 ≤ k) := Lib.hid hlt
                  clear hi hgi hiw hold hct hoa hcc hacl cg0 ezs cc0 hz9 cq0 hlt b0 hkS
                  go_wp2_with fail
                  go_region
                  all_goals go_wp2_with fail
                  all_goals go_roundw
                  all_goals (first
                    | exact ⟨kk + 1, HKK.out, by go_num, HX2, HL2, HV2, HC2, HG2⟩
                    | (simp [intOf]; have := HKK.out; omega))
                · obtain rfl : kk = k := by omega
                  have k1 : ¬ (kk : Int) < (kk : Int) := by omega
                  have HL9 : Hid (LB w p q ws (sy ws) og m (acc ws T (j + 1)) wr) := Lib.hid (by
                    rw [← acc2_full, HSN.out]; exact HL.out)
                  have hj1 := HJT.out.2
                  clear hlt
                  go_wp2_with fail
                  go_roundw
                  case rel => exact ⟨j + 1, by omega, by go_num, HL9, HV, HG⟩
                  case measure => simp [intOf]; omega
            · obtain rfl : j = r := by omega
              have j1 : ¬ (j : Int) < (j : Int) := by omega
              have HF9 : Hid (IE w (lenR ws (I1 : Int)) (.returned (.tuple #[.slice (some ⟨og, 0, none⟩) m m, .int .i64 0])) wr) := Lib.hid (ie_mk F.out (by rw [lens_length, HM.out]) (Nat.le_refl _) (by rw [← HFIN.out]; exact HL.out.A.rd) HL.out.B)
              clear hlt
              go_wp2_with fail
              refine bodyPost_ret (v := .tuple #[.slice (some ⟨og, 0, none⟩) m m, .int .i64 0]) (by simp [results, Try.results9, go_sem]) rfl ?_
              exact HF9.out
theorem rlengths_any (ws : List Nat) (lim : Int) (p : Option Addr) (c : Nat) (w : World) (hp : Rd w p (nums ws)) (hl : ws.length ≤ 17592186044416) :
    Calls Try.prog 9 #[.slice p ws.length c, .int .i64 lim] w (IE w (lenR ws lim)) := by
  cases hb : okL ws lim with
  | false => exact rlengths_bad ws lim p c w hp hl hb
  | true =>
    have hb2 := hb
    unfold okL at hb2
    simp only [Bool.and_eq_true, decide_eq_true_eq] at hb2
    obtain ⟨lm, rfl⟩ := Int.eq_ofNat_of_zero_le (show 0 ≤ lim by omega)
    by_cases hf : 2 ^ lm < (sy ws).length ∨ (sy ws).length < 2
    · exact rlengths_few ws lm p c w hp hb hf
    · exact rlengths_main ws lm p c w hp hb (by omega) (by omega)
end Go.Proofs.Ytbegngilbngnoaa.Pk
