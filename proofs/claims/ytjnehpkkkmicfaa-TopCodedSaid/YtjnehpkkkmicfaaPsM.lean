/- Packages put in order by a stable sort, and how often a leaf is in the first ones, counted from the last level down: plain lists. No function of the program in sight. -/
import Derived.Test.YtjnehpkkkmicfaaBnI
import Derived.Test.YtjnehpkkkmicfaaBnG
namespace Go.Proofs.Ytjnehpkkkmicfaa.Ps
open Pk St Go.Sort
theorem R_asymm {key : Nat → Nat} {a b : Nat} (h : R key a b) (k : R key b a) : a = b := by unfold R at *; omega
theorem uniq {key : Nat → Nat} {A B : List Nat} (hp : A.Perm B) (hA : A.Pairwise (R key)) (hB : B.Pairwise (R key)) : A = B :=
  List.Perm.eq_of_pairwise (le := R key) (fun _ _ _ _ h k => R_asymm h k) hA hB hp
/-- what a stable sort of numbers that rise leaves -/
theorem srt_list {key : Nat → Nat} {L : List Nat} {d' : Array Nat} (hp : PermIn 0 L.length L.toArray d') (hs : Srt key d' 0 L.length) : d'.toList.Perm L ∧ d'.toList.Pairwise (R key) := by
  obtain ⟨h1, _, h3⟩ := hp
  have h2 : d'.size = L.length := by simpa using h1
  constructor
  · have e1 : d'.extract 0 L.length = d' := by rw [← h2]; exact Array.extract_size
    have e2 : L.toArray.extract 0 L.length = L.toArray := by simp
    rw [e1, e2] at h3
    simpa using h3
  · rw [List.pairwise_iff_getElem]
    intro i j hi hj hij
    have hj2 : j < d'.size := by simpa using hj
    have hi2 : i < d'.size := by simpa using hi
    have := hs i j (Nat.zero_le _) hij (by omega)
    simp only [getElem!_pos d' i hi2, getElem!_pos d' j hj2] at this
    simpa using this
theorem asc_of {L : List Nat} (h : L.Pairwise (· < ·)) : Asc L.toArray 0 L.length := fun i j _ h2 h3 => by
  have := List.pairwise_iff_getElem.1 h i j (by omega) h3 h2
  rw [getElem!_pos L.toArray i (by simp; omega), getElem!_pos L.toArray j (by simpa using h3)]
  simpa using this
/-! ### leaves -/
theorem put_R {key : Nat → Nat} {x : Nat} : ∀ {A : List Nat}, A.Pairwise (R key) → (∀ a ∈ A, a < x) → (put key x A).Pairwise (R key)
  | [], _, _ => by simp [put]
  | y :: A, hA, hx => by
    obtain ⟨h1, h2⟩ := List.pairwise_cons.1 hA
    have hyx := hx y (List.mem_cons_self ..)
    rw [put]
    split
    · rename_i hle
      refine List.pairwise_cons.2 ⟨fun z hz => ?_, put_R h2 fun a ha => hx a (List.mem_cons_of_mem _ ha)⟩
      rcases put_mem.1 hz with rfl | hz
      · exact R.mk hle hyx
      · exact h1 z hz
    · rename_i hle
      refine List.pairwise_cons.2 ⟨fun z hz => ?_, hA⟩
      rcases List.mem_cons.1 hz with rfl | hz
      · exact R.mk2 (by omega)
      · exact R.trans (R.mk2 (by omega : key x < key y)) (h1 z hz)
theorem puts_R {key : Nat → Nat} : ∀ (B A : List Nat), A.Pairwise (R key) → B.Pairwise (· < ·) → (∀ a ∈ A, ∀ b ∈ B, a < b) → (B.foldl (fun l x => put key x l) A).Pairwise (R key)
  | [], _, h, _, _ => h
  | y :: B, A, hA, hB, hx => by
    obtain ⟨b1, b2⟩ := List.pairwise_cons.1 hB
    refine puts_R B (put key y A) (put_R hA fun a ha => hx a ha y (List.mem_cons_self ..)) b2 fun a ha b hb => ?_
    rcases put_mem.1 ha with rfl | ha
    · exact b1 b hb
    · exact hx a ha b (List.mem_cons_of_mem _ hb)
theorem range_lt (n : Nat) : (List.range n).Pairwise (· < ·) := List.pairwise_lt_range
theorem sy_lt' (ws : List Nat) : (sy ws).Pairwise (· < ·) := (range_lt ws.length).filter _
theorem lv_R (ws : List Nat) : (lv ws).Pairwise (R (wf ws)) := puts_R (sy ws) [] List.Pairwise.nil (sy_lt' ws) (fun a ha => by simp at ha)
/-- the leaves are what the sort leaves -/
theorem lv_sorted {ws : List Nat} {d' : Array Nat} (hp : PermIn 0 (sy ws).length (sy ws).toArray d') (hs : Srt (wf ws) d' 0 (sy ws).length) : d'.toList = lv ws := by
  have h := srt_list hp hs
  exact uniq (h.1.trans (lv_perm ws).symm) h.2 (lv_R ws)
/-! ### a level -/
theorem mrg_perm {α : Type} (f : α → Nat) : ∀ (A B : List α), (mrg f A B).Perm (A ++ B)
  | [], B => by rw [nil_mrg]; exact List.Perm.refl _
  | x :: A, [] => by rw [mrg_nil]; simp
  | x :: A, y :: B => by
    by_cases h : f x ≤ f y
    · rw [mrg_le h]; exact (mrg_perm f A (y :: B)).cons x
    · rw [mrg_gt h]; exact ((mrg_perm f (x :: A) B).cons y).trans List.perm_middle.symm
termination_by A B => A.length + B.length
theorem mrg_R {key : Nat → Nat} : ∀ (A B : List Nat), A.Pairwise (R key) → B.Pairwise (R key) → (∀ a ∈ A, ∀ b ∈ B, a < b) → (mrg key A B).Pairwise (R key)
  | [], B, _, h, _ => by rwa [nil_mrg]
  | x :: A, [], h, _, _ => by rwa [mrg_nil]
  | x :: A, y :: B, hA, hB, hx => by
    obtain ⟨a1, a2⟩ := List.pairwise_cons.1 hA
    obtain ⟨b1, b2⟩ := List.pairwise_cons.1 hB
    have hxy := hx x (List.mem_cons_self ..) y (List.mem_cons_self ..)
    by_cases h : key x ≤ key y
    · rw [mrg_le h]
      refine List.pairwise_cons.2 ⟨fun z hz => ?_, mrg_R A (y :: B) a2 hB fun a ha b hb => hx a (List.mem_cons_of_mem _ ha) b hb⟩
      rcases (mrg_mem key).1 hz with hz | hz
      · exact a1 z hz
      · rcases List.mem_cons.1 hz with rfl | hz
        · exact R.mk h hxy
        · exact R.trans (R.mk h hxy) (b1 z hz)
    · rw [mrg_gt h]
      refine List.pairwise_cons.2 ⟨fun z hz => ?_, mrg_R (x :: A) B hA b2 fun a ha b hb => hx a ha b (List.mem_cons_of_mem _ hb)⟩
      rcases (mrg_mem key).1 hz with hz | hz
      · rcases List.mem_cons.1 hz with rfl | hz
        · exact R.mk2 (by omega)
        · exact R.trans (R.mk2 (by omega : key y < key x)) (a1 z hz)
      · exact b1 z hz
termination_by A B => A.length + B.length
theorem mrg_map {α β : Type} (f : β → Nat) (g : α → β) : ∀ (A B : List α), (mrg (fun i => f (g i)) A B).map g = mrg f (A.map g) (B.map g)
  | [], B => by rw [nil_mrg]; simp [nil_mrg]
  | x :: A, [] => by rw [mrg_nil]; simp [mrg_nil]
  | x :: A, y :: B => by
    rw [List.map_cons, List.map_cons]
    by_cases h : f (g x) ≤ f (g y)
    · rw [mrg_le (f := fun i => f (g i)) h, mrg_le h, List.map_cons, mrg_map f g A (y :: B), List.map_cons]
    · rw [mrg_gt (f := fun i => f (g i)) h, mrg_gt h, List.map_cons, mrg_map f g (x :: A) B, List.map_cons]
termination_by A B => A.length + B.length
def leaf : Tr → Bool
  | .lf _ => true
  | .nd _ _ => false
/-- item i of a list -/
def at' (X : List Tr) (i : Nat) : Tr := X.getD i (.lf 0)
theorem at_map (X : List Tr) : (List.range X.length).map (at' X) = X := by
  apply List.ext_getElem
  · simp
  · intro i h1 h2
    simp [at', h2]
def wkey (W : Nat → Nat) (X : List Tr) (i : Nat) : Nat := (at' X i).wt W
theorem up_R {W : Nat → Nat} {X : List Tr} {l : List Nat} (hl : l.Pairwise (· < ·)) (hu : Up (Tr.wt W) (l.map (at' X))) : l.Pairwise (R (wkey W X)) := by
  unfold Up at hu
  rw [List.pairwise_map] at hu
  exact (List.Pairwise.and hu hl).imp fun ⟨h1, h2⟩ => R.mk h1 h2
/-- what the sort leaves of two lists in order, one behind the other, is both as one -/
theorem level_sorted {W : Nat → Nat} {A B : List Tr} (hA : Up (Tr.wt W) A) (hB : Up (Tr.wt W) B) {n : Nat} (hn : n = (A ++ B).length) {d' : Array Nat} (hp : PermIn 0 n (Array.range n) d') (hs : Srt (wkey W (A ++ B)) d' 0 n) :
    d'.toList.map (at' (A ++ B)) = mrg (Tr.wt W) A B := by
  have h := srt_list (L := List.range n) (key := wkey W (A ++ B)) (d' := d') (by simpa using hp) (by simpa using hs)
  have hsplit : List.range n = List.range A.length ++ List.range' A.length B.length := by
    have := List.range'_append_1 (s := 0) (m := A.length) (n := B.length)
    rw [Nat.zero_add] at this
    rw [hn, List.length_append, List.range_eq_range', List.range_eq_range', this]
  have hmA : (List.range A.length).map (at' (A ++ B)) = A := by
    apply List.ext_getElem
    · simp
    · intro i h1 h2
      simp [at', List.getElem?_append_left h2, h2]
  have hmB : (List.range' A.length B.length).map (at' (A ++ B)) = B := by
    apply List.ext_getElem
    · simp
    · intro i h1 h2
      simp [at', h2]
  have hR := mrg_R (key := wkey W (A ++ B)) (List.range A.length) (List.range' A.length B.length) (up_R (range_lt _) (by rw [hmA]; exact hA)) (up_R List.pairwise_lt_range' (by rw [hmB]; exact hB))
    (fun a ha b hb => by have := List.mem_range.1 ha; have := (List.mem_range'_1.1 hb).1; omega)
  have e := uniq (h.1.trans (by rw [hsplit]; exact (mrg_perm (wkey W (A ++ B)) _ _).symm)) h.2 hR
  rw [e]
  exact (mrg_map (Tr.wt W) (at' (A ++ B)) _ _).trans (by rw [hmA, hmB])
/-! ### counting down -/
def lfc (l : List Tr) : Nat := l.countP leaf
theorem lfc_cons (t : Tr) (l : List Tr) : lfc (t :: l) = lfc l + if leaf t = true then 1 else 0 := List.countP_cons ..
theorem lfc_leaves : ∀ (L : List Nat), lfc (L.map .lf) = L.length
  | [] => rfl
  | x :: L => by rw [List.map_cons, lfc_cons, lfc_leaves L]; rfl
theorem lfc_prs : ∀ (T : List Tr), lfc (prs T) = 0
  | [] => rfl
  | [_] => rfl
  | a :: b :: l => by rw [prs, lfc_cons, lfc_prs l]; rfl
theorem lfc_app (a b : List Tr) : lfc (a ++ b) = lfc a + lfc b := by simp [lfc]
theorem lfc_le (T : List Tr) (k : Nat) : lfc (T.take k) ≤ lfc T := by
  have := lfc_app (T.take k) (T.drop k)
  rw [List.take_append_drop] at this; omega
theorem lfc_lev (W : Nat → Nat) (L : List Nat) : ∀ j, lfc (lev W L j) = L.length
  | 0 => lfc_leaves L
  | j + 1 => by
    rw [lev]
    have : lfc (mrg (Tr.wt W) (L.map .lf) (prs (lev W L j))) = lfc (L.map .lf ++ prs (lev W L j)) := List.Perm.countP_eq _ (mrg_perm _ _ _)
    rw [this, lfc_app, lfc_leaves, lfc_prs]
    omega
theorem lfc_succ {T : List Tr} {k : Nat} (h : k < T.length) : lfc (T.take (k + 1)) = lfc (T.take k) + if leaf T[k] then 1 else 0 := by
  rw [List.take_succ_eq_append_getElem h, lfc_app, lfc_cons]
  show _ + (0 + _) = _
  rw [Nat.zero_add]
theorem sum_lf (x : Nat) (l : List Nat) : sum (Tr.cnt x) (l.map .lf) = l.count x := by
  rw [sum_map]
  exact sum_count x l
/-- how many packages of the level ahead are left, the first k of a level being looked at -/
def nxt (W : Nat → Nat) (L : List Nat) (j k : Nat) : Nat := 2 * (k - lfc ((lev W L j).take k))
theorem lfc_len (T : List Tr) : lfc T ≤ T.length := List.countP_le_length
theorem step_up {W : Nat → Nat} {L : List Nat} (hu : Up W L) {j k : Nat} (hk : k ≤ (lev W L (j + 1)).length) (x : Nat) :
    sum (Tr.cnt x) ((lev W L (j + 1)).take k) = (L.take (lfc ((lev W L (j + 1)).take k))).count x + sum (Tr.cnt x) ((lev W L j).take (nxt W L (j + 1) k)) ∧ nxt W L (j + 1) k ≤ (lev W L j).length := by
  obtain ⟨a, b, h1, h2, h3, h4, _⟩ := mrg_take (Tr.wt W) (A := L.map .lf) (B := prs (lev W L j)) k (up_map hu) (prs_up (lev_up hu j)) (by rw [List.length_map, prs_length, ← lev_length]; exact hk)
  have e : (lev W L (j + 1)).take k = (mrg (Tr.wt W) (L.map .lf) (prs (lev W L j))).take k := rfl
  have hq : lfc ((lev W L (j + 1)).take k) = a := by
    rw [e]
    have : lfc ((mrg (Tr.wt W) (L.map .lf) (prs (lev W L j))).take k) = _ := List.Perm.countP_eq leaf h4
    rw [this]
    have := lfc_app ((L.map Tr.lf).take a) ((prs (lev W L j)).take b)
    unfold lfc at this
    rw [this]
    have h5 := lfc_leaves (L.take a)
    have h6 : lfc ((prs (lev W L j)).take b) = 0 := by rw [prs_take]; exact lfc_prs _
    unfold lfc at h5 h6
    rw [← List.map_take, h5, h6, List.length_take]
    rw [List.length_map] at h2
    omega
  have hb2 : 2 * b ≤ (lev W L j).length := by rw [prs_length] at h3; omega
  unfold nxt
  rw [hq, show 2 * (k - a) = 2 * b by omega]
  refine ⟨?_, hb2⟩
  rw [e, sum_perm h4, sum_app, ← List.map_take, sum_lf, prs_take, prs_sum (fun _ _ => rfl) _ (by rw [List.length_take]; omega)]
theorem step_low {W : Nat → Nat} {L : List Nat} {k : Nat} (hk : k ≤ (lev W L 0).length) (x : Nat) : sum (Tr.cnt x) ((lev W L 0).take k) = (L.take (lfc ((lev W L 0).take k))).count x := by
  have hk2 : k ≤ L.length := by simpa [lev] using hk
  have : lfc ((lev W L 0).take k) = k := by
    show lfc ((L.map Tr.lf).take k) = k
    rw [← List.map_take, lfc_leaves, List.length_take]; omega
  rw [this]
  show sum (Tr.cnt x) ((L.map Tr.lf).take k) = _
  rw [← List.map_take, sum_lf]
theorem count_take {L : List Nat} (hn : L.Nodup) {i q : Nat} (hi : i < L.length) : (L.take q).count L[i] = if i < q then 1 else 0 := by
  rw [(hn.sublist (List.take_sublist _ _)).count]
  have : L[i] ∈ L.take q ↔ i < q := by
    constructor
    · intro hm
      obtain ⟨k, hk, e⟩ := List.mem_take_iff_getElem.1 hm
      have h1 := List.pairwise_iff_getElem.1 hn
      by_cases hki : k < i
      · exact absurd e (h1 k i _ hi hki)
      · by_cases hik : i < k
        · exact absurd e.symm (h1 i k hi (by omega) hik)
        · omega
    · intro h
      exact List.mem_take_iff_getElem.2 ⟨i, by omega, rfl⟩
  by_cases h : i < q
  · rw [if_pos h, if_pos (this.2 h)]
  · rw [if_neg h, if_neg fun hm => h (this.1 hm)]
/-- the first q of numbers, each one more -/
def bump (O : List Nat) (q : Nat) : List Nat := (List.range O.length).map fun i => O.getD i 0 + if i < q then 1 else 0
theorem bump_length (O : List Nat) (q : Nat) : (bump O q).length = O.length := by simp [bump]
theorem bump_at {O : List Nat} {q i : Nat} (h : i < O.length) : (bump O q).getD i 0 = O.getD i 0 + if i < q then 1 else 0 := by simp [bump, h]
theorem bump_zero (O : List Nat) : bump O 0 = O := by
  apply List.ext_getElem
  · simp [bump]
  · intro i h1 h2; simp [bump, h2]
theorem bump_succ {O : List Nat} {q : Nat} (h : q < O.length) : (bump O q).set q ((bump O q).getD q 0 + 1) = bump O (q + 1) := by
  apply List.ext_getElem
  · simp [bump]
  · intro i h1 h2
    have hi : i < O.length := by simpa [bump] using h2
    rw [List.getElem_set]
    by_cases e : q = i
    · subst e; rw [if_pos rfl, bump_at h]; simp [bump, hi]
    · rw [if_neg e]
      have : (i < q) ↔ (i < q + 1) := by omega
      simp [bump, this]
/-- what is counted yet: of each leaf as often as told, and as often as it is in the first k of level j -/
def Cnt (W : Nat → Nat) (L : List Nat) (tot : Nat → Nat) (j k : Nat) (O : List Nat) : Prop := O.length = L.length ∧ k ≤ (lev W L j).length ∧ ∀ i (h : i < L.length), O.getD i 0 + sum (Tr.cnt L[i]) ((lev W L j).take k) = tot i
theorem Cnt.step {W : Nat → Nat} {L : List Nat} {t : Nat → Nat} {j k : Nat} {O : List Nat} (hu : Up W L) (hn : L.Nodup) (h : Cnt W L t (j + 1) k O) : Cnt W L t j (nxt W L (j + 1) k) (bump O (lfc ((lev W L (j + 1)).take k))) := by
  obtain ⟨h1, h2, h3⟩ := h
  refine ⟨by rw [bump_length, h1], (step_up hu h2 0).2, fun i hi => ?_⟩
  have := h3 i hi
  rw [(step_up hu h2 L[i]).1, count_take hn hi] at this
  rw [bump_at (by rw [h1]; exact hi)]
  omega
theorem Cnt.low {W : Nat → Nat} {L : List Nat} {t : Nat → Nat} {k : Nat} {O : List Nat} (hn : L.Nodup) (h : Cnt W L t 0 k O) : (bump O (lfc ((lev W L 0).take k))).length = L.length ∧ ∀ i, i < L.length → (bump O (lfc ((lev W L 0).take k))).getD i 0 = t i := by
  obtain ⟨h1, h2, h3⟩ := h
  refine ⟨by rw [bump_length, h1], fun i hi => ?_⟩
  have := h3 i hi
  rw [step_low h2, count_take hn hi] at this
  rw [bump_at (by rw [h1]; exact hi)]
  exact this
theorem Cnt.start {W : Nat → Nat} {L : List Nat} {j : Nat} (hk : 2 * L.length - 2 ≤ (lev W L j).length) : Cnt W L (fun i => len W L j (L.getD i 0)) j (2 * L.length - 2) (List.replicate L.length 0) := by
  refine ⟨by simp, hk, fun i hi => ?_⟩
  simp [len, hi]
/-- lengths told so far, symbol by symbol in the leaves' order -/
def told (m : Nat) (L : List Nat) (f : Nat → Nat) (q : Nat) : List Nat := (List.range m).map fun s => if s ∈ L.take q then f s else 0
theorem told_length (m : Nat) (L : List Nat) (f : Nat → Nat) (q : Nat) : (told m L f q).length = m := by simp [told]
theorem told_zero (m : Nat) (L : List Nat) (f : Nat → Nat) : told m L f 0 = List.replicate m 0 := by
  apply List.ext_getElem
  · simp [told]
  · intro i h1 h2; simp [told]
theorem told_succ {m : Nat} {L : List Nat} {f : Nat → Nat} {q : Nat} (h : q < L.length) : (told m L f q).set L[q] (f L[q]) = told m L f (q + 1) := by
  apply List.ext_getElem
  · simp [told]
  · intro i h1 h2
    have hi : i < m := by simpa [told] using h2
    rw [List.getElem_set]
    by_cases e : L[q] = i
    · rw [if_pos e]
      have : i ∈ L.take (q + 1) := by rw [List.take_succ_eq_append_getElem h, e]; simp
      simp [told, this, e]
    · rw [if_neg e]
      have : i ∈ L.take (q + 1) ↔ i ∈ L.take q := by
        rw [List.take_succ_eq_append_getElem h, List.mem_append, List.mem_singleton]
        exact ⟨fun h => h.resolve_right fun e2 => e e2.symm, .inl⟩
      simp [told, this]
theorem told_all {ws : List Nat} {lim : Nat} (h2 : 2 ≤ (lv ws).length) (hk : (lv ws).length ≤ 2 ^ (lim - 1 + 1)) : told ws.length (lv ws) (len (wf ws) (lv ws) (lim - 1)) (lv ws).length = lens ws lim := by
  apply List.ext_getElem
  · simp [told, lens]
  · intro i h1 h3
    have hz := (len_full (lv_up ws) (lv_nodup ws) h2 hk).2.2.2
    simp only [told, lens, List.getElem_map, List.getElem_range, List.take_length]
    by_cases h : i ∈ lv ws
    · rw [if_pos h, if_neg (by omega)]
    · rw [if_neg h, if_neg (by omega), hz i h]
end Go.Proofs.Ytjnehpkkkmicfaa.Ps
