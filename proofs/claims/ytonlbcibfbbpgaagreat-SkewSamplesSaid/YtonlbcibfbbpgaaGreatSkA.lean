/- The walks of the document's Check, At, triple, Places, Samples. -/
import Derived.Test.YtonlbcibfbbpgaaGreatSkM
import Derived.Test.YtonlbcibfbbpgaaGreatOrdNum
import Derived.Test.YtonlbcibfbbpgaaGreatFit
namespace Go.Proofs.YtonlbcibfbbpgaaGreat.Sk
open Go.RowKit Go.Lib Rw Nm Ls Od

def chkS (l : List Nat) : Int := if okL l = true then 0 else 1
theorem chk_bad {l : List Nat} {k : Nat} (hk : k < l.length) (h : l.getD k 0 < 1 ∨ 1099511627776 ≤ l.getD k 0) : chkS l = 1 := by
  unfold chkS
  rw [if_neg]
  intro ho
  unfold okL at ho
  simp only [Bool.and_eq_true, List.all_eq_true, decide_eq_true_eq] at ho
  have := ho.2 l[k] (List.getElem_mem _)
  rw [gd hk] at h
  omega
theorem chk_ok {l : List Nat} (h1 : l.length ≤ 4096) (h : ∀ j, j < l.length → 1 ≤ l.getD j 0 ∧ l.getD j 0 < 1099511627776) : chkS l = 0 := by
  unfold chkS
  rw [if_pos]
  unfold okL
  simp only [Bool.and_eq_true, List.all_eq_true, decide_eq_true_eq]
  refine ⟨h1, fun x hx => ?_⟩
  obtain ⟨j, hj, rfl⟩ := List.getElem_of_mem hx
  have := h j hj
  rwa [gd hj] at this
theorem chk_long {l : List Nat} (h : 4096 < l.length) : chkS l = 1 := by
  unfold chkS
  rw [if_neg]
  intro ho
  unfold okL at ho
  simp only [Bool.and_eq_true, decide_eq_true_eq] at ho
  omega
theorem chk_cases (l : List Nat) : (okL l = true ∧ chkS l = 0) ∨ (okL l = false ∧ chkS l = 1) := by
  unfold chkS
  cases okL l
  · exact .inr ⟨rfl, rfl⟩
  · exact .inl ⟨rfl, rfl⟩
theorem ok_len {l : List Nat} (h : okL l = true) : l.length ≤ 4096 := by
  unfold okL at h
  simp only [Bool.and_eq_true, decide_eq_true_eq] at h
  exact h.1
theorem nums_mk {w w' : World} {L : List Nat} {n : Nat} {q : Option Addr} {c : Nat} (hL : L.length = n) (hc : n ≤ c) (hr : Rd w' q (nums L)) (hn : NewAt w.heap.size q) (hb : Below w.heap.size w w') : NumsP w L (.returned (.slice q n c)) w' := by
  subst hL; exact ⟨q, c, rfl, hc, hr, hn, hb⟩
/-- an answer that is a row of places in new memory -/
def IntsP (w : World) (L : List Nat) (e : Ending) (w' : World) : Prop := ∃ (q : Option Addr) (c : Nat), e = .returned (.slice q L.length c) ∧ L.length ≤ c ∧ Rd w' q (zs (up L)) ∧ NewAt w.heap.size q ∧ Below w.heap.size w w'
theorem ints_mk {w w' : World} {L : List Nat} {n : Nat} {q : Option Addr} {c : Nat} (hL : L.length = n) (hc : n ≤ c) (hr : Rd w' q (zs (up L))) (hn : NewAt w.heap.size q) (hb : Below w.heap.size w w') : IntsP w L (.returned (.slice q n c)) w' := by
  subst hL; exact ⟨q, c, rfl, hc, hr, hn, hb⟩
theorem up_app (a b : List Nat) : up (a ++ b) = up a ++ up b := by simp [up]
theorem zs_app (a b : List Int) : zs (a ++ b) = zs a ++ zs b := by simp [zs]
/-- what is gathered when so many groups are done -/
def grp (n k : Nat) : List Nat := if k = 0 then [] else if k = 1 then g1 (top n) else places n
def gk (k j : Nat) : List Nat := if k = 0 then g1 j else g2 j
theorem grp_succ (n k : Nat) (h : k < 2) : grp n k ++ gk k (top n) = grp n (k + 1) := by
  rcases (show k = 0 ∨ k = 1 by omega) with rfl | rfl
  · simp [grp, gk]
  · simp [grp, gk, places]
theorem gk_succ (k j : Nat) (h : k < 2) : gk k (j + 1) = if j % 3 = k + 1 then gk k j ++ [j] else gk k j := by
  rcases (show k = 0 ∨ k = 1 by omega) with rfl | rfl
  · simp only [gk, if_true]; exact g1_succ j
  · simp only [gk]; exact g2_succ j
theorem gk_zero (k : Nat) : gk k 0 = [] := by unfold gk g1 g2; split <;> rfl
theorem gk_len (k j : Nat) : (gk k j).length ≤ j := by
  unfold gk g1 g2
  split <;> simp <;> omega
theorem grp_len (n k : Nat) : (grp n k).length ≤ n + 1 + (n + 1) := by
  have ht : top n ≤ n + 1 := by unfold top; split <;> omega
  unfold grp
  split
  · simp
  · split
    · have h := gk_len 0 (top n)
      have e : gk 0 (top n) = g1 (top n) := rfl
      rw [e] at h
      omega
    · rw [places_length]
      have := mm_le n
      omega
/-- a group under way -/
def PlR (n k g : Nat) (W1 : World) (v i : Value) (wq : World) : Prop := ∃ (j m : Nat) (O : List Nat), j ≤ top n ∧ i = .int .i64 j ∧ O = grp n k ++ gk k j ∧ m = O.length ∧ wq.ownsRow (g + 1) 3 1 v m (zs (up O)) ∧ Below (g + 1) W1 wq
/-- groups done -/
def PlQ (n g : Nat) (W1 : World) (v i : Value) (wq : World) : Prop := ∃ (k m : Nat) (O : List Nat), k ≤ 2 ∧ i = .int .i64 k ∧ O = grp n k ∧ m = O.length ∧ wq.ownsRow (g + 1) 3 1 v m (zs (up O)) ∧ Below (g + 1) W1 wq
end Go.Proofs.YtonlbcibfbbpgaaGreat.Sk
