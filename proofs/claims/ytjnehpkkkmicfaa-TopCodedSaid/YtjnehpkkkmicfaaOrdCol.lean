/- The walk of the document's Column. -/
import Derived.Test.YtjnehpkkkmicfaaOrdTxt
import Derived.Test.YtjnehpkkkmicfaaOrdEnds
namespace Go.Proofs.Ytjnehpkkkmicfaa.Od
open Go.RowKit Go.Lib Rw Nm Ls

/-- bytes, as they lie in memory -/
def u8s (L : List Nat) : List Value := L.map fun (n : Nat) => Value.int .u8 (n : Int)
theorem u8s_length (L : List Nat) : (u8s L).length = L.length := by simp [u8s]
theorem u8s_snoc (L : List Nat) (n : Nat) : u8s (L ++ [n]) = u8s L ++ [.int .u8 (n : Int)] := by simp [u8s]
theorem bytes_of {w : World} {B g n cap : Nat} {L : List Nat} (h : w.ownsRow B 5 1 (.slice (some ⟨g, 0, none⟩) n cap) n (u8s L)) (hL : ∀ x ∈ L, x < 256) : Row.Bytes w g (L.map UInt8.ofNat) := by
  have hlen := h.1
  rw [u8s_length] at hlen
  refine ⟨(h.lt g rfl).2, fun j hj => ?_, fun j _ => h.frozenAt j⟩
  rw [List.length_map] at hj
  rw [h.cellAt j (by omega)]
  have hx := hL L[j] (List.getElem_mem _)
  simp [u8s, List.getD_eq_getElem?_getD, hj]
  omega
theorem toList_data (s : ByteArray) : s.toList = s.data.toList := by obtain ⟨⟨l⟩⟩ := s; simp
theorem colT_lt {s : List Nat} (h : ∀ x ∈ s, x < 256) (k : Nat) : ∀ x ∈ colT s k, x < 256 := by
  have hg : ∀ i, s.getD i 0 < 256 := fun i => by
    rw [List.getD_eq_getElem?_getD]
    cases hi : s[i]? with
    | none => simp
    | some v => exact h v (List.mem_of_getElem? hi)
  intro x hx
  unfold colT at hx
  rcases List.mem_cons.1 hx with rfl | hx
  · exact hg _
  · obtain ⟨e, _, rfl⟩ := List.mem_map.1 hx
    exact hg _
theorem bsN_lt (s : ByteArray) : ∀ x ∈ bsN s, x < 256 := by
  intro x hx
  unfold bsN at hx
  obtain ⟨c, _, rfl⟩ := List.mem_map.1 hx
  exact c.toNat_lt
theorem prim_at (s : List Nat) (h : s ≠ []) {k : Nat} (hk : k < s.length) (h0 : (ends s).getD k 0 = 0) : prim s = k + 1 := by
  have hl := ends_length s
  have h1 : (rowsOf s)[k + 1]'(by rw [rows_length]; omega) = 0 := by
    unfold rowsOf
    rw [List.getElem_cons_succ, ← gd (by omega)]; exact h0
  have := rowOf_at s (r := k + 1) (by rw [rows_length]; omega)
  rw [h1] at this
  rw [prim_row s h]; exact this
/-- the primary, if it was met -/
def primT (s : List Nat) (k : Nat) : Nat := if prim s ≤ k then prim s else 0
theorem primT_succ (s : List Nat) (h : s ≠ []) (k : Nat) (hk : k < s.length) : primT s (k + 1) = if (ends s).getD k 0 = 0 then k + 1 else primT s k := by
  by_cases e : (ends s).getD k 0 = 0
  · rw [if_pos e]
    have := prim_at s h hk e
    unfold primT; rw [this, if_pos (Nat.le_refl _)]
  · rw [if_neg e]
    unfold primT
    by_cases h1 : prim s ≤ k
    · rw [if_pos h1, if_pos (by omega)]
    · rw [if_neg h1]
      by_cases h2 : prim s ≤ k + 1
      · exfalso
        have hp : prim s = k + 1 := by omega
        have hr := prim_row s h
        have ha := at_rowOf s (q := 0) (Nat.zero_le _)
        have hl := ends_length s
        have e2 : (rowsOf s)[k + 1]'(by rw [rows_length]; omega) = 0 := by
          have : rowOf s 0 = k + 1 := by omega
          simp only [this] at ha
          exact ha
        unfold rowsOf at e2
        rw [List.getElem_cons_succ, ← gd (by omega)] at e2
        exact e e2
      · rw [if_neg h2]
theorem own_block {w : World} {B : Nat} {e : TypeId} {s : Nat} {v : Value} {n : Nat} {xs : List Value} (h : w.ownsRow B e s v n xs) (h0 : 0 < n) : ∃ g cap, v = .slice (some ⟨g, 0, none⟩) n cap := by
  rcases h.2 with ⟨rfl, hn⟩ | ⟨g, cap, cur, rfl, _⟩
  · omega
  · exact ⟨g, cap, rfl⟩
end Go.Proofs.Ytjnehpkkkmicfaa.Od
