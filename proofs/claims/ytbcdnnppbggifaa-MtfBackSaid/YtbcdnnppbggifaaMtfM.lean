/- Rows of bytes, and bytes moved to the front: the model. No function of the program in sight. -/
import Derived.Test.YtbcdnnppbggifaaRows
namespace Go.Proofs.Ytbcdnnppbggifaa.Mt

/-- all numbers below n, each once -/
def Row (n : Nat) (L : List Nat) : Prop := L.length = n ∧ ∀ c, c < n → c ∈ L
instance (n : Nat) (L : List Nat) : Decidable (Row n L) := by unfold Row; infer_instance
theorem row_perm : ∀ (n : Nat) (L : List Nat), Row n L → L.Perm (List.range n)
  | 0, L, h => by
    have : L = [] := List.length_eq_zero_iff.1 h.1
    subst this; exact List.Perm.refl _
  | n + 1, L, h => by
    have hm : n ∈ L := h.2 n (by omega)
    have h1 := row_perm n (L.erase n) ⟨by rw [List.length_erase_of_mem hm, h.1]; rfl, fun c hc => (List.mem_erase_of_ne (by omega)).2 (h.2 c (by omega))⟩
    rw [List.range_succ]
    exact (List.perm_cons_erase hm).trans ((h1.cons n).trans (List.perm_append_singleton n (List.range n)).symm)
theorem row_nodup {n : Nat} {L : List Nat} (h : Row n L) : L.Nodup := (row_perm n L h).nodup_iff.2 List.nodup_range
theorem row_lt {n : Nat} {L : List Nat} (h : Row n L) {c : Nat} (hc : c ∈ L) : c < n := List.mem_range.1 ((row_perm n L h).mem_iff.1 hc)
theorem idx_lt {n : Nat} {L : List Nat} (h : Row n L) {c : Nat} (hc : c < n) : L.idxOf c < n := by
  have := List.idxOf_lt_length_of_mem (h.2 c hc)
  rw [h.1] at this; exact this
theorem idx_at {n : Nat} {L : List Nat} (h : Row n L) {c : Nat} (hc : c < n) : L.getD (L.idxOf c) 0 = c := by
  have hl := List.idxOf_lt_length_of_mem (h.2 c hc)
  rw [List.getD_eq_getElem?_getD, List.getElem?_eq_getElem hl, Option.getD_some]
  exact List.getElem_idxOf hl
theorem at_lt {n : Nat} {L : List Nat} (h : Row n L) {i : Nat} (hi : i < n) : L.getD i 0 < n := by
  have hl : i < L.length := by rw [h.1]; exact hi
  rw [List.getD_eq_getElem?_getD, List.getElem?_eq_getElem hl, Option.getD_some]
  exact row_lt h (List.getElem_mem _)
theorem at_idx {n : Nat} {L : List Nat} (h : Row n L) {i : Nat} (hi : i < n) : L.idxOf (L.getD i 0) = i := by
  have hl : i < L.length := by rw [h.1]; exact hi
  have hl2 := idx_lt h (at_lt h hi)
  have e := idx_at h (at_lt h hi)
  generalize L.idxOf (L.getD i 0) = j at hl2 e
  have hl3 : j < L.length := by rw [h.1]; exact hl2
  rw [List.getD_eq_getElem?_getD, List.getD_eq_getElem?_getD, List.getElem?_eq_getElem hl, List.getElem?_eq_getElem hl3, Option.getD_some, Option.getD_some] at e
  exact (List.getElem_inj (row_nodup h)).1 e
/-- the number at a place, moved to the front -/
def front (L : List Nat) (i : Nat) : List Nat := [L.getD i 0] ++ L.take i ++ L.drop (i + 1)
theorem front_head (L : List Nat) (i : Nat) : (front L i).getD 0 0 = L.getD i 0 := by simp [front]
theorem front_row {n : Nat} {L : List Nat} (h : Row n L) {i : Nat} (hi : i < n) : Row n (front L i) := by
  have hl : i < L.length := by rw [h.1]; exact hi
  refine ⟨by simp [front, h.1]; omega, fun c hc => ?_⟩
  have hm := h.2 c hc
  have e : L = L.take i ++ (L.getD i 0 :: L.drop (i + 1)) := by
    rw [List.getD_eq_getElem?_getD, List.getElem?_eq_getElem hl, Option.getD_some, List.getElem_cons_drop, List.take_append_drop]
  rw [e] at hm
  simp only [front, List.mem_append, List.mem_cons, List.not_mem_nil, or_false] at hm ⊢
  grind
/-- how far the numbers of s are, and the row behind -/
def mv : List Nat → List Nat → List Nat × List Nat
  | r, [] => ([], r)
  | r, c :: s => (r.idxOf c :: (mv (front r (r.idxOf c)) s).1, (mv (front r (r.idxOf c)) s).2)
def bk : List Nat → List Nat → List Nat × List Nat
  | r, [] => ([], r)
  | r, d :: s => (r.getD d 0 :: (bk (front r d) s).1, (bk (front r d) s).2)
theorem mv_app : ∀ (s t r : List Nat), mv r (s ++ t) = ((mv r s).1 ++ (mv (mv r s).2 t).1, (mv (mv r s).2 t).2)
  | [], t, r => by simp [mv]
  | c :: s, t, r => by simp only [List.cons_append, mv, mv_app s t]
theorem bk_app : ∀ (s t r : List Nat), bk r (s ++ t) = ((bk r s).1 ++ (bk (bk r s).2 t).1, (bk (bk r s).2 t).2)
  | [], t, r => by simp [bk]
  | c :: s, t, r => by simp only [List.cons_append, bk, bk_app s t]
theorem mv_length : ∀ (s r : List Nat), (mv r s).1.length = s.length
  | [], _ => rfl
  | _ :: s, _ => by simp [mv, mv_length s]
theorem bk_length : ∀ (s r : List Nat), (bk r s).1.length = s.length
  | [], _ => rfl
  | _ :: s, _ => by simp [bk, bk_length s]
theorem mv_row {n : Nat} : ∀ (s r : List Nat), Row n r → (∀ c ∈ s, c < n) → Row n (mv r s).2
  | [], _, h, _ => h
  | c :: s, _, h, hs => mv_row s _ (front_row h (idx_lt h (hs c (List.mem_cons_self ..)))) fun x hx => hs x (List.mem_cons_of_mem _ hx)
theorem bk_row {n : Nat} : ∀ (s r : List Nat), Row n r → (∀ c ∈ s, c < n) → Row n (bk r s).2
  | [], _, h, _ => h
  | c :: s, _, h, hs => bk_row s _ (front_row h (hs c (List.mem_cons_self ..))) fun x hx => hs x (List.mem_cons_of_mem _ hx)
theorem mv_lt {n : Nat} : ∀ (s r : List Nat), Row n r → (∀ c ∈ s, c < n) → ∀ d ∈ (mv r s).1, d < n
  | [], _, _, _, d, hd => by simp [mv] at hd
  | c :: s, r, h, hs, d, hd => by
    have hc := idx_lt h (hs c (List.mem_cons_self ..))
    simp only [mv, List.mem_cons] at hd
    rcases hd with rfl | hd
    · exact hc
    · exact mv_lt s _ (front_row h hc) (fun x hx => hs x (List.mem_cons_of_mem _ hx)) d hd
theorem bk_lt {n : Nat} : ∀ (s r : List Nat), Row n r → (∀ c ∈ s, c < n) → ∀ d ∈ (bk r s).1, d < n
  | [], _, _, _, d, hd => by simp [bk] at hd
  | c :: s, r, h, hs, d, hd => by
    have hc := hs c (List.mem_cons_self ..)
    simp only [bk, List.mem_cons] at hd
    rcases hd with rfl | hd
    · exact at_lt h hc
    · exact bk_lt s _ (front_row h hc) (fun x hx => hs x (List.mem_cons_of_mem _ hx)) d hd
theorem bk_mv {n : Nat} : ∀ (s r : List Nat), Row n r → (∀ c ∈ s, c < n) → bk r (mv r s).1 = (s, (mv r s).2)
  | [], _, _, _ => rfl
  | c :: s, r, h, hs => by
    have hc := hs c (List.mem_cons_self ..)
    simp only [mv, bk, bk_mv s _ (front_row h (idx_lt h hc)) fun x hx => hs x (List.mem_cons_of_mem _ hx), idx_at h hc]
theorem mv_bk {n : Nat} : ∀ (s r : List Nat), Row n r → (∀ c ∈ s, c < n) → mv r (bk r s).1 = (s, (bk r s).2)
  | [], _, _, _ => rfl
  | c :: s, r, h, hs => by
    have hc := hs c (List.mem_cons_self ..)
    simp only [mv, bk, at_idx h hc, mv_bk s _ (front_row h hc) fun x hx => hs x (List.mem_cons_of_mem _ hx)]
theorem mv_snoc (r s : List Nat) (c : Nat) : mv r (s ++ [c]) = ((mv r s).1 ++ [(mv r s).2.idxOf c], front (mv r s).2 ((mv r s).2.idxOf c)) := by rw [mv_app]; rfl
theorem bk_snoc (r s : List Nat) (c : Nat) : bk r (s ++ [c]) = ((bk r s).1 ++ [(bk r s).2.getD c 0], front (bk r s).2 c) := by rw [bk_app]; rfl
theorem take_snoc {s : List Nat} {k : Nat} (h : k < s.length) : s.take (k + 1) = s.take k ++ [s.getD k 0] := by
  rw [List.take_add_one, List.getD_eq_getElem?_getD, List.getElem?_eq_getElem h]; rfl
/-- the row begins with the last one -/
theorem mv_head {n : Nat} {r s : List Nat} (h : Row n r) (hs : ∀ c ∈ s, c < n) {k : Nat} (hk : k < s.length) : (mv r (s.take (k + 1))).2.getD 0 0 = s.getD k 0 := by
  have hc : s.getD k 0 < n := by
    rw [List.getD_eq_getElem?_getD, List.getElem?_eq_getElem hk, Option.getD_some]; exact hs _ (List.getElem_mem _)
  rw [take_snoc hk, mv_snoc]
  simp only [front_head]
  exact idx_at (mv_row _ _ h fun c hc => hs c (List.mem_of_mem_take hc)) hc
theorem mv_at {r s : List Nat} {k : Nat} (hk : k < s.length) : (mv r s).1.getD k 0 = (mv r (s.take k)).2.idxOf (s.getD k 0) := by
  have e : s = s.take k ++ (s.getD k 0 :: s.drop (k + 1)) := by
    rw [List.getD_eq_getElem?_getD, List.getElem?_eq_getElem hk, Option.getD_some, List.getElem_cons_drop, List.take_append_drop]
  have hl : (mv r (s.take k)).1.length = k := by rw [mv_length, List.length_take]; omega
  have := mv_app (s.take k) (s.getD k 0 :: s.drop (k + 1)) r
  rw [← e] at this
  rw [this]
  simp only [mv]
  rw [List.getD_eq_getElem?_getD, List.getElem?_append_right (by omega), hl]
  simp
theorem mv_again {n : Nat} (hn : 0 < n) {r s : List Nat} (h : Row n r) (hs : ∀ c ∈ s, c < n) {k : Nat} (hk : k + 1 < s.length) : ((mv r s).1.getD (k + 1) 0 = 0) ↔ s.getD (k + 1) 0 = s.getD k 0 := by
  have hr := mv_row (s.take (k + 1)) _ h fun c hc => hs c (List.mem_of_mem_take hc)
  have hh := mv_head h hs (k := k) (by omega)
  rw [mv_at hk]
  have hc : s.getD (k + 1) 0 < n := by
    rw [List.getD_eq_getElem?_getD, List.getElem?_eq_getElem hk, Option.getD_some]; exact hs _ (List.getElem_mem _)
  constructor
  · intro e
    have := idx_at hr hc
    rw [e, hh] at this; exact this.symm
  · intro e
    rw [e, ← hh]
    exact at_idx hr hn
/-- where a number is, told up to k -/
theorem idx_none {L : List Nat} {c : Nat} (h : c ∉ L) : L.idxOf c = L.length := List.idxOf_eq_length h
end Go.Proofs.Ytbcdnnppbggifaa.Mt
