/- The walk of the document's Text. -/
import Derived.Test.YtjnehpkkkmicfaaOrdNum
import Derived.Test.YtjnehpkkkmicfaaBytesRow
import Derived.Test.YtjnehpkkkmicfaaArr
namespace Go.Proofs.Ytjnehpkkkmicfaa.Od
open Go.RowKit Go.Lib Rw Nm Ls

/-- numbers below 256, as a text -/
def ofN (L : List Nat) : ByteArray := ⟨(L.map UInt8.ofNat).toArray⟩
def toN (L : List UInt8) : List Nat := L.map UInt8.toNat
theorem ofN_toN (L : List UInt8) : ofN (toN L) = ⟨L.toArray⟩ := by
  unfold ofN toN
  rw [List.map_map]
  have : UInt8.ofNat ∘ UInt8.toNat = id := by funext x; simp
  rw [this, List.map_id]
theorem bsN_toN (s : ByteArray) : bsN s = toN s.data.toList := rfl
theorem ofN_bsN (s : ByteArray) : ofN (bsN s) = s := by rw [bsN_toN, ofN_toN]
theorem bsN_getD (s : ByteArray) (k : Nat) (h : k < s.size) : (bsN s).getD k 0 = (s[k]'h).toNat := by rw [gd (by rw [bsN_length]; exact h), bsN_at s k h]
theorem bsN_ofN {L : List Nat} (h : ∀ x ∈ L, x < 256) : bsN (ofN L) = L := by
  unfold bsN ofN
  rw [List.map_map]
  have : ∀ x ∈ L, (UInt8.toNat ∘ UInt8.ofNat) x = x := fun x hx => by simp; have := h x hx; omega
  rw [List.map_congr_left this, List.map_id']
theorem info_u8 : (Try.prog.info? 5).map (fun i => (i.zero, i.size, i.bytes)) = some (some (.int .u8 0), 1, 1) := by kernel_rfl
def textI (c : List Nat) (p : Int) : Option (List Nat) := if p < 0 then none else text c p.toNat
def txtE (c : List Nat) (p : Int) : Int := if (textI c p).isSome then 0 else 7
def txtS (c : List Nat) (p : Int) : ByteArray := ofN ((textI c p).getD [])
theorem txt_no {c : List Nat} {p : Int} (h : textI c p = none) : txtS c p = ⟨#[]⟩ ∧ txtE c p = 7 := by unfold txtS txtE; rw [h]; exact ⟨rfl, rfl⟩
theorem txt_yes {c : List Nat} {p : Int} {M : List Nat} (h : textI c p = some M) : txtS c p = ofN M ∧ txtE c p = 0 := by unfold txtS txtE; rw [h]; exact ⟨rfl, rfl⟩
def cntT (c : List Nat) (a i : Nat) : Nat := 1 + (List.range i).countP fun i => decide (c.getD i 0 < c.getD a 0) || (decide (c.getD i 0 = c.getD a 0) && decide (i < a))
theorem cntT_succ (c : List Nat) (a i : Nat) : cntT c a (i + 1) = cntT c a i + if c.getD i 0 < c.getD a 0 ∨ c.getD i 0 = c.getD a 0 ∧ i < a then 1 else 0 := by
  unfold cntT
  rw [List.range_succ, List.countP_append]
  simp only [List.countP_cons, List.countP_nil, Bool.or_eq_true, Bool.and_eq_true, decide_eq_true_eq]
  split <;> simp_all <;> omega
theorem cntT_le (c : List Nat) (a i : Nat) : cntT c a i ≤ i + 1 := by
  unfold cntT
  have := List.countP_le_length (p := fun i => decide (c.getD i 0 < c.getD a 0) || (decide (c.getD i 0 = c.getD a 0) && decide (i < a))) (l := List.range i)
  rw [List.length_range] at this
  omega
theorem textI_big {c : List Nat} {p : Int} (h : p < 1 ∨ (c.length : Int) < p) (h0 : ¬ (c.length = 0 ∧ p = 0)) : textI c p = none := by
  unfold textI
  by_cases hp : p < 0
  · rw [if_pos hp]
  · rw [if_neg hp]; unfold text; rw [if_neg (by omega), if_pos (by omega)]
theorem textI_in {c : List Nat} {p : Nat} (h1 : 1 ≤ p) (h2 : p ≤ c.length) : textI c (p : Int) = textGo c p c.length 0 [] := by
  unfold textI
  rw [if_neg (by omega), Int.toNat_natCast]; unfold text; rw [if_neg (by omega), if_neg (by omega)]
theorem rep_set (k : Nat) (x : UInt8) (L : List UInt8) : (List.replicate (k + 1) 0 ++ L).set k x = List.replicate k 0 ++ x :: L := by
  have e : List.replicate (k + 1) (0 : UInt8) ++ L = List.replicate k 0 ++ 0 :: L := by
    rw [List.replicate_succ', List.append_assoc]; rfl
  rw [e, List.set_append_right _ _ (by simp)]
  simp
theorem made_bytes {w : World} {B g n : Nat} (h : w.ownsRow B 5 1 (.slice (some ⟨g, 0, none⟩) n n) n (List.replicate n (.int .u8 0))) : Row.Bytes w g (List.replicate n 0) := by
  have ha : Arr w B 5 g n (List.replicate n (.int .u8 0)) := h
  refine ⟨ha.lt.2, fun j hj => ?_, fun j _ => ha.free j⟩
  rw [List.length_replicate] at hj
  rw [ha.cell hj]
  simp [List.getD_eq_getElem?_getD, hj]
end Go.Proofs.Ytjnehpkkkmicfaa.Od
