/- TopCoded: what lengths of bytes' counts, written, come to. -/
import Derived.Test.YtjnehpkkkmicfaaTopPkM
import Derived.Test.YtjnehpkkkmicfaaCanLawC
import Derived.Test.YtjnehpkkkmicfaaCanLawE
import Derived.Test.YtjnehpkkkmicfaaTblLawB
namespace Go.Proofs.Ytjnehpkkkmicfaa.Tp
open Go.RowKit Go.Lib Rw Ls Od _root_.Go.Proofs.Ytjnehpkkkmicfaa.Nm Pk Bt Cn Tb2

/-- how often each byte is among the first k -/
def ctb (l : List Nat) (k : Nat) : List Nat := (List.range 256).map fun v => (l.take k).count v
theorem ctb_length (l : List Nat) (k : Nat) : (ctb l k).length = 256 := by simp [ctb]
theorem ctb_zero (l : List Nat) : ctb l 0 = List.replicate 256 0 := by simp [ctb, List.map_const']
theorem ctb_at (l : List Nat) (k : Nat) {v : Nat} (hv : v < 256) : (ctb l k).getD v 0 = (l.take k).count v := by simp [ctb, List.getD_eq_getElem?_getD, hv]
theorem ctb_succ (l : List Nat) {k : Nat} (hk : k < l.length) : ctb l (k + 1) = (ctb l k).set (l.getD k 0) ((l.take k).count (l.getD k 0) + 1) := by
  have hg : l.getD k 0 = l[k] := gd hk
  obtain ⟨x, hx⟩ : ∃ x, x = l.getD k 0 := ⟨_, rfl⟩
  rw [← hx] at hg ⊢
  apply List.ext_getElem (by simp [ctb_length])
  intro v h1 h2
  rw [List.getElem_set]
  simp only [ctb, List.getElem_map, List.getElem_range]
  rw [List.take_succ_eq_append_getElem hk, List.count_append, ← hg]
  by_cases e : x = v
  · rw [if_pos e, e]; simp
  · rw [if_neg e]; simp [e]
theorem ctb_le (l : List Nat) (k v : Nat) : (ctb l k).getD v 0 ≤ l.length := by
  rcases Nat.lt_or_ge v 256 with h | h
  · rw [ctb_at l k h]
    exact Nat.le_trans List.count_le_length (by rw [List.length_take]; exact Nat.min_le_right _ _)
  · rw [List.getD_eq_getElem?_getD, List.getElem?_eq_none (by rw [ctb_length]; exact h)]; exact Nat.zero_le _
theorem ctb_okW {l : List Nat} {k : Nat} (h : l.length ≤ 1099511627776) : okW (ctb l k) = true := by
  unfold okW
  simp only [Bool.and_eq_true, decide_eq_true_eq, List.all_eq_true]
  refine ⟨by rw [ctb_length]; omega, fun x hx => ?_⟩
  obtain ⟨i, hi, rfl⟩ := List.getElem_of_mem hx
  have := ctb_le l k i
  rw [gd hi] at this
  omega
theorem stp_length {a b : Nat} (ha : a ≤ 15) (hb : b ≤ 15) : (stp a b).length ≤ 31 := by
  unfold stp
  rw [List.length_append, List.length_append, ups_length, dns_length]
  simp only [List.length_cons, List.length_nil]
  omega
theorem tl_length : ∀ (l : List Nat) (a : Nat), a ≤ 15 → (∀ x ∈ l, x ≤ 15) → (tl a l).length ≤ 31 * l.length
  | [], _, _, _ => by simp [tl]
  | b :: l, a, ha, h => by
    have hb := h b (List.mem_cons_self ..)
    have ih := tl_length l b hb (fun x hx => h x (List.mem_cons_of_mem _ hx))
    have := stp_length ha hb
    rw [tl, List.length_append, List.length_cons]
    omega
theorem tbl_length {l : List Nat} (h : ∀ x ∈ l, x ≤ 15) : (tbl l).length ≤ 4 + 31 * l.length := by
  unfold tbl
  rw [List.length_append, nbits_length]
  have h0 : l.getD 0 0 ≤ 15 := by
    cases l with
    | nil => simp
    | cons a r => exact h a (List.mem_cons_self ..)
  have := tl_length l _ h0 h
  omega
theorem sum_snoc {α : Type} (f : α → Nat) (x : α) : ∀ l : List α, sum f (l ++ [x]) = sum f l + f x
  | [] => by simp [sum]
  | y :: l => by rw [List.cons_append, sum_cons, sum_cons, sum_snoc f x l]; omega
theorem bits_len (ls : List Int) (X : List Bool) (sy : List Nat) : ∀ k, k ≤ sy.length → (bitsT ls X sy k).length = X.length + sum (fun x => ln ls x) (sy.take k)
  | 0, _ => by rw [bitsT_zero]; simp [sum]
  | k + 1, hk => by
    rw [bitsT_succ ls X sy (by omega), List.length_append, nbits_length, bits_len ls X sy k (by omega), List.take_succ_eq_append_getElem (by omega), sum_snoc, gd (by omega)]
    omega
theorem errT_all {ls : List Int} {X : List Bool} {sy : List Nat} (h1 : ∀ x ∈ sy, x < ls.length ∧ ls.getD x 0 ≠ 0 ∧ ln ls x ≤ 15) (h2 : X.length + 15 * sy.length ≤ 1048576) : ∀ k, k ≤ sy.length → errT ls X sy k = 0 ∧ (bitsT ls X sy k).length ≤ X.length + 15 * k
  | 0, _ => ⟨rfl, by rw [bitsT_zero]; omega⟩
  | k + 1, hk => by
    obtain ⟨a, b⟩ := errT_all h1 h2 k (by omega)
    have hm : sy.getD k 0 ∈ sy := by rw [gd (by omega : k < sy.length)]; exact List.getElem_mem _
    obtain ⟨c, d, e⟩ := h1 _ hm
    refine ⟨?_, ?_⟩
    · rw [errT_next a]
      unfold stepE
      rw [if_neg (by omega), if_neg d, if_neg (by omega)]
    · rw [bitsT_succ ls X sy (by omega), List.length_append, nbits_length]
      omega
theorem coded {l : List Nat} (h : ∀ x ∈ l, x < 256) (hl : l.length ≤ 300) :
    ∃ (LS : List Nat) (S1 S2 : ByteArray) (A : Nat → Nat) (C : Nat), LS.length = 256 ∧ lenR (ctb l l.length) 15 = (LS, 0) ∧ twR ⟨#[]⟩ 0 (up LS) = (S1, (A 0 : Int), 0) ∧ wrR S1 (A 0 : Int) (up LS) l = (S2, (A l.length : Int), 0) ∧ S1.size ≤ maxLen ∧ S2.size ≤ maxLen ∧
      trR S2 (A l.length : Int) 0 256 = (LS, (A 0 : Int), 0) ∧ (∀ k, k < l.length → rdR S2 (A l.length : Int) (A k : Int) (up LS) = (l.getD k 0, (A (k + 1) : Int), 0)) ∧ costR (ctb l l.length) (up LS) = (C, 0) ∧ tsR (up LS) = ((A 0 : Int), 0) ∧ A l.length = A 0 + C ∧ A l.length ≤ 1048576 := by
  have ho := ctb_okW (l := l) (k := l.length) (by omega)
  obtain ⟨g1, g2⟩ := len15 ho
  have hok := ok_lens ho
  have hk : (sy (ctb l l.length)).length ≤ 2 ^ 15 := Nat.le_trans (sy_len _) (by rw [ctb_length]; omega)
  have hone : ∀ i, i < 256 → (lens (ctb l l.length) 15).getD i 0 ≤ 15 ∧ (0 < l.count i ↔ 0 < (lens (ctb l l.length) 15).getD i 0) := fun i hi => by
    have := lens_one (ws := ctb l l.length) (lim := 15) (by decide) hk (i := i) (by rw [ctb_length]; exact hi)
    rw [ctb_at l _ hi, List.take_length] at this
    exact this
  have hcost : cost (ctb l l.length) (lens (ctb l l.length) 15) = sum (fun x => (lens (ctb l l.length) 15).getD x 0) l := by
    unfold cost
    rw [ctb_length, ← count_sum (L := List.range 256) (s := l) List.nodup_range (fun x hx => List.mem_range.2 (h x hx))]
    exact sum_congr fun v hv => by rw [ctb_at l _ (List.mem_range.1 hv), List.take_length, Nat.mul_comm]
  have hlen : (lens (ctb l l.length) 15).length = 256 := by rw [lens_length, ctb_length]
  generalize hLS : lens (ctb l l.length) 15 = LS at g1 g2 hok hone hcost hlen
  have h15 : ∀ x ∈ LS, x ≤ 15 := fun x hx => by
    obtain ⟨i, hi, rfl⟩ := List.getElem_of_mem hx
    have := (hone i (by omega)).1
    rw [gd hi] at this
    exact this
  have h0 : LS ≠ [] := fun e => by rw [e] at hlen; simp at hlen
  have hT := tbl_length h15
  have htw := tw_one h0 hok (by omega)
  have hlnx : ∀ x, ln (up LS) x = LS.getD x 0 := fun x => by unfold ln; rw [up_at, Int.toNat_natCast]
  have hall := errT_all (ls := up LS) (X := tbl LS) (sy := l) (fun x hx => by
    have hx2 := h x hx
    obtain ⟨a, b⟩ := hone x hx2
    have hp := b.1 (List.count_pos_iff.2 hx)
    refine ⟨by rw [up_length]; omega, by rw [up_at]; omega, by rw [hlnx]; exact a⟩) (by omega)
  obtain ⟨e0, eb⟩ := hall l.length (Nat.le_refl _)
  obtain ⟨Y, hY⟩ : ∃ Y, Y = bitsT (up LS) (tbl LS) l l.length := ⟨_, rfl⟩
  have hYb : Y.length ≤ 1048576 := by rw [hY]; omega
  obtain ⟨RY, hRY⟩ := bitsT_rest (up LS) (tbl LS) l l.length 0 (by omega)
  rw [Nat.zero_add, bitsT_zero, ← hY] at hRY
  have hTb : (tbl LS).length ≤ 1048576 := by omega
  have hYc : (bitsT (up LS) (tbl LS) l l.length).length ≤ 1048576 := by rw [← hY]; exact hYb
  have hA0 : (bitsT (up LS) (tbl LS) l 0).length = (tbl LS).length := by rw [bitsT_zero]
  obtain ⟨A, hA⟩ : ∃ A : Nat → Nat, ∀ k, A k = (bitsT (up LS) (tbl LS) l k).length := ⟨fun k => (bitsT (up LS) (tbl LS) l k).length, fun _ => rfl⟩
  refine ⟨LS, packS (tbl LS), packS Y, A, cost (ctb l l.length) LS, hlen, g1, ?_, ?_, ?_, ?_, ?_, fun k hk2 => ?_, g2, ?_, ?_, ?_⟩
  · rw [hA, hA0]; exact htw
  · rw [hA, hA, hA0]
    unfold wrR
    rw [if_pos (packS_chk hTb), if_pos hok]
    simp only [Int.toNat_natCast, packS_bits]
    rw [if_pos e0, ← hY]
  · have := packS_size hTb; unfold maxLen; omega
  · have := packS_size hYb; unfold maxLen; omega
  · rw [hA, hA, hA0, ← hY]
    have hrd := read_tbl h0 h15 hok RY
    rw [← hRY, hlen] at hrd
    unfold trR
    rw [if_pos (packS_chk hYb), if_neg (by omega)]
    simp only [Int.toNat_natCast, packS_bits]
    rw [show (0 : Int).toNat = 0 from rfl, List.drop_zero, show (256 : Int).toNat = 256 from rfl, hrd]
    have := congrArg List.length hRY
    rw [List.length_append] at this
    rw [if_pos rfl]
    refine Prod.ext rfl (Prod.ext ?_ rfl)
    show (Y.length : Int) - (RY.length : Int) = ((tbl LS).length : Int)
    omega
  · obtain ⟨q1, q2, q3, q4⟩ := back_at (rt_of hok) e0 hk2
    have hle : (bitsT (up LS) (tbl LS) l k).length ≤ (bitsT (up LS) (tbl LS) l (k + 1)).length := by
      rw [bitsT_succ _ _ _ hk2, List.length_append]; omega
    rw [hA, hA, hA]
    rw [← hY] at q1 q4 ⊢
    exact rdR_at hok hYb (by omega) q1
  · rw [hA, hA0]
    unfold tsR
    rw [if_pos ⟨fun e => h0 (by unfold up at e; simpa using e), hok⟩, nats_up]
  · rw [hA, hA, hA0, bits_len _ _ _ _ (Nat.le_refl _), List.take_length, hcost]
    rw [show sum (fun x => ln (up LS) x) l = sum (fun x => LS.getD x 0) l from sum_congr fun v _ => hlnx v]
  · rw [hA]; exact hYc
end Go.Proofs.Ytjnehpkkkmicfaa.Tp
