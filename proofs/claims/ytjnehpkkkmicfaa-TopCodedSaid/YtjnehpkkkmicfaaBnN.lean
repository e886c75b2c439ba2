/- TblM TblC TblLives -/
import Derived.Test.YtjnehpkkkmicfaaBnJ
import Derived.Test.YtjnehpkkkmicfaaBnC
import Derived.Test.YtjnehpkkkmicfaaBnM
import Derived.Test.YtjnehpkkkmicfaaSameN
namespace Go.Proofs.Ytjnehpkkkmicfaa.Tb2
open Go.RowKit Go.Lib Rw Ls Od _root_.Go.Proofs.Ytjnehpkkkmicfaa.Nm Pk Bt Cn

def ups (d : Nat) : List Bool := (List.replicate d [true, false]).flatten
def dns (d : Nat) : List Bool := (List.replicate d [true, true]).flatten
theorem ups_succ (d : Nat) : ups (d + 1) = true :: false :: ups d := by simp [ups, List.replicate_succ]
theorem dns_succ (d : Nat) : dns (d + 1) = true :: true :: dns d := by simp [dns, List.replicate_succ]
theorem ups_zero : ups 0 = [] := rfl
theorem dns_zero : dns 0 = [] := rfl
/-- from one length to another -/
def stp (a b : Nat) : List Bool := ups (b - a) ++ dns (a - b) ++ [false]
def tl : Nat → List Nat → List Bool
  | _, [] => []
  | a, b :: l => stp a b ++ tl b l
def tbl (l : List Nat) : List Bool := nbits (l.getD 0 0) 4 ++ tl (l.getD 0 0) l
theorem stp_up {a b : Nat} (h : a ≤ b) : stp a b = ups (b - a) ++ [false] := by unfold stp; rw [show a - b = 0 by omega, dns_zero, List.append_nil]
theorem stp_dn {a b : Nat} (h : b ≤ a) : stp a b = dns (a - b) ++ [false] := by unfold stp; rw [show b - a = 0 by omega, ups_zero, List.nil_append]
/-- one length, read from one on -/
def oneL : List Bool → Bool → Bool → Int → Int × List Bool × Int
  | [], _, _, _ => (0, [], 5)
  | false :: r, _, _, z => (z, r, 0)
  | [true], _, _, _ => (0, [], 5)
  | true :: d :: r, u, w, z => if (if d then z - 1 else z + 1) < 0 ∨ 15 < (if d then z - 1 else z + 1) ∨ ((u || !d) && (w || d)) = true then (0, [], 7) else oneL r (u || !d) (w || d) (if d then z - 1 else z + 1)
theorem one_ups : ∀ (d : Nat) (u : Bool) (z : Int) (R : List Bool), 0 ≤ z → z + d ≤ 15 → oneL (ups d ++ false :: R) u false z = (z + d, R, 0)
  | 0, u, z, R, _, _ => by simp [ups_zero, oneL]
  | d + 1, u, z, R, h0, h1 => by
    rw [ups_succ, List.cons_append, List.cons_append, oneL]
    rw [if_neg (by simp; omega)]
    simp only [Bool.not_false, Bool.or_true, Bool.or_false, Bool.false_eq_true, if_false]
    rw [one_ups d true (z + 1) R (by omega) (by omega)]
    simp; omega
theorem one_dns : ∀ (d : Nat) (w : Bool) (z : Int) (R : List Bool), 0 ≤ z - d → z ≤ 15 → oneL (dns d ++ false :: R) false w z = (z - d, R, 0)
  | 0, w, z, R, _, _ => by simp [dns_zero, oneL]
  | d + 1, w, z, R, h0, h1 => by
    rw [dns_succ, List.cons_append, List.cons_append, oneL]
    rw [if_neg (by simp; omega)]
    simp only [Bool.not_true, Bool.or_true, Bool.or_false, if_true]
    rw [one_dns d true (z - 1) R (by omega) (by omega)]
    simp; omega
theorem one_stp {a b : Nat} (ha : a ≤ 15) (hb : b ≤ 15) (R : List Bool) : oneL (stp a b ++ R) false false a = ((b : Int), R, 0) := by
  rcases Nat.le_total a b with h | h
  · rw [stp_up h, List.append_assoc, List.singleton_append, one_ups _ _ _ _ (by omega) (by omega)]
    congr 1; omega
  · rw [stp_dn h, List.append_assoc, List.singleton_append, one_dns _ _ _ _ (by omega) (by omega)]
    congr 1; omega
theorem one_ups_cut : ∀ (d k : Nat) (u : Bool) (z : Int), 0 ≤ z → z + d ≤ 15 → k < 2 * d + 1 → oneL ((ups d ++ [false]).take k) u false z = (0, [], 5)
  | _, 0, _, _, _, _, _ => by simp [oneL]
  | 0, k + 1, _, _, _, _, h => by omega
  | d + 1, 1, u, z, _, _, _ => by rw [ups_succ]; simp [oneL]
  | d + 1, k + 2, u, z, h0, h1, h2 => by
    rw [ups_succ, List.cons_append, List.cons_append, List.take_succ_cons, List.take_succ_cons, oneL]
    rw [if_neg (by simp; omega)]
    simp only [Bool.not_false, Bool.or_true, Bool.or_false, Bool.false_eq_true, if_false]
    exact one_ups_cut d k true (z + 1) (by omega) (by omega) (by omega)
theorem one_dns_cut : ∀ (d k : Nat) (w : Bool) (z : Int), 0 ≤ z - d → z ≤ 15 → k < 2 * d + 1 → oneL ((dns d ++ [false]).take k) false w z = (0, [], 5)
  | _, 0, _, _, _, _, _ => by simp [oneL]
  | 0, k + 1, _, _, _, _, h => by omega
  | d + 1, 1, u, z, _, _, _ => by rw [dns_succ]; simp [oneL]
  | d + 1, k + 2, u, z, h0, h1, h2 => by
    rw [dns_succ, List.cons_append, List.cons_append, List.take_succ_cons, List.take_succ_cons, oneL]
    rw [if_neg (by simp; omega)]
    simp only [Bool.not_true, Bool.or_true, Bool.or_false, if_true]
    exact one_dns_cut d k true (z - 1) (by omega) (by omega) (by omega)
theorem ups_length (d : Nat) : (ups d).length = 2 * d := by
  induction d with
  | zero => rfl
  | succ d ih => rw [ups_succ]; simp [ih]; omega
theorem dns_length (d : Nat) : (dns d).length = 2 * d := by
  induction d with
  | zero => rfl
  | succ d ih => rw [dns_succ]; simp [ih]; omega
theorem one_cut {a b : Nat} (ha : a ≤ 15) (hb : b ≤ 15) {k : Nat} (hk : k < (stp a b).length) : oneL ((stp a b).take k) false false a = (0, [], 5) := by
  rcases Nat.le_total a b with h | h
  · rw [stp_up h] at hk ⊢
    rw [List.length_append, ups_length] at hk
    exact one_ups_cut _ _ _ _ (by omega) (by omega) hk
  · rw [stp_dn h] at hk ⊢
    rw [List.length_append, dns_length] at hk
    exact one_dns_cut _ _ _ _ (by omega) (by omega) hk
/-- what was read has just these bits -/
theorem one_inv : ∀ (Y : List Bool) (u w : Bool) (z l : Int) (R : List Bool), 0 ≤ z → z ≤ 15 → (u && w) = false → oneL Y u w z = (l, R, 0) →
    0 ≤ l ∧ l ≤ 15 ∧ ((w = false ∧ ∃ d : Nat, l = z + d ∧ Y = ups d ++ false :: R) ∨ (u = false ∧ ∃ d : Nat, l = z - d ∧ Y = dns d ++ false :: R))
  | [], u, w, z, l, R, _, _, _, h => by simp [oneL] at h
  | false :: r, u, w, z, l, R, h0, h1, h2, h => by
    simp only [oneL, Prod.mk.injEq, and_true] at h
    obtain ⟨rfl, rfl⟩ := h
    refine ⟨h0, h1, ?_⟩
    cases u
    · exact .inr ⟨rfl, 0, by simp, by simp [dns_zero]⟩
    · cases w
      · exact .inl ⟨rfl, 0, by simp, by simp [ups_zero]⟩
      · cases h2
  | [true], u, w, z, l, R, _, _, _, h => by simp [oneL] at h
  | true :: false :: r, u, w, z, l, R, h0, h1, h2, h => by
    rw [oneL] at h
    simp only [Bool.not_false, Bool.or_true, Bool.or_false, Bool.false_eq_true, if_false, Bool.true_and] at h
    split at h
    · simp at h
    · rename_i hn
      have hw : w = false := by cases w <;> simp_all
      subst hw
      obtain ⟨a, b, c⟩ := one_inv r true false (z + 1) l R (by omega) (by omega) rfl h
      refine ⟨a, b, ?_⟩
      rcases c with ⟨_, d, e1, e2⟩ | ⟨e, _⟩
      · exact .inl ⟨rfl, d + 1, by omega, by rw [e2, ups_succ]; rfl⟩
      · cases e
  | true :: true :: r, u, w, z, l, R, h0, h1, h2, h => by
    rw [oneL] at h
    simp only [Bool.not_true, Bool.or_true, Bool.or_false, if_true, Bool.and_true] at h
    split at h
    · simp at h
    · rename_i hn
      have hw : u = false := by cases u <;> simp_all
      subst hw
      obtain ⟨a, b, c⟩ := one_inv r false true (z - 1) l R (by omega) (by omega) rfl h
      refine ⟨a, b, ?_⟩
      rcases c with ⟨e, _⟩ | ⟨_, d, e1, e2⟩
      · cases e
      · exact .inr ⟨rfl, d + 1, by omega, by rw [e2, dns_succ]; rfl⟩
theorem one_back {Y : List Bool} {a : Nat} {l : Int} {R : List Bool} (ha : a ≤ 15) (h : oneL Y false false a = (l, R, 0)) : 0 ≤ l ∧ l ≤ 15 ∧ Y = stp a l.toNat ++ R := by
  obtain ⟨h1, h2, h3⟩ := one_inv Y false false a l R (by omega) (by omega) rfl h
  refine ⟨h1, h2, ?_⟩
  rcases h3 with ⟨_, d, e1, e2⟩ | ⟨_, d, e1, e2⟩
  · rw [stp_up (by omega), e2, show l.toNat - a = d by omega, List.append_assoc]; rfl
  · rw [stp_dn (by omega), e2, show a - l.toNat = d by omega, List.append_assoc]; rfl
/-- so many lengths, read from one on; the first one is told already -/
def allL : Nat → Bool → List Bool → Int → List Nat → List Nat × List Bool × Int
  | 0, _, r, _, out => (out, r, 0)
  | n + 1, fi, r, z, out =>
    if (oneL r false false z).2.2 ≠ 0 then ([], [], (oneL r false false z).2.2)
    else if fi = true ∧ (oneL r false false z).1 ≠ z then ([], [], 7)
    else allL n false (oneL r false false z).2.1 (oneL r false false z).1 (out ++ [(oneL r false false z).1.toNat])
theorem all_tl : ∀ (l : List Nat) (fi : Bool) (a : Nat) (R : List Bool) (out : List Nat), a ≤ 15 → (∀ x ∈ l, x ≤ 15) → (fi = true → l.getD 0 a = a) → allL l.length fi (tl a l ++ R) a out = (out ++ l, R, 0)
  | [], _, _, _, _, _, _, _ => by simp [allL, tl]
  | b :: l, fi, a, R, out, ha, hl, hf => by
    have hb := hl b (List.mem_cons_self ..)
    rw [List.length_cons, allL, tl, List.append_assoc, one_stp ha hb]
    rw [if_neg (by simp), if_neg (by
      rintro ⟨h1, h2⟩
      have := hf h1
      simp at this
      subst this
      exact h2 rfl)]
    show allL l.length false (tl b l ++ R) (b : Int) (out ++ [((b : Nat) : Int).toNat]) = _
    rw [Int.toNat_natCast, all_tl l false b R (out ++ [b]) hb (fun x hx => hl x (List.mem_cons_of_mem _ hx)) (fun h => by cases h)]
    simp
theorem all_inv : ∀ (n : Nat) (fi : Bool) (Y : List Bool) (a : Nat) (out L : List Nat) (R : List Bool), a ≤ 15 → allL n fi Y a out = (L, R, 0) → ∃ l : List Nat, L = out ++ l ∧ l.length = n ∧ Y = tl a l ++ R ∧ (∀ x ∈ l, x ≤ 15) ∧ (fi = true → l.getD 0 a = a)
  | 0, _, Y, a, out, L, R, _, h => by
    simp only [allL, Prod.mk.injEq, and_true] at h
    obtain ⟨rfl, rfl⟩ := h
    exact ⟨[], by simp, rfl, by simp [tl], by simp, fun _ => rfl⟩
  | n + 1, fi, Y, a, out, L, R, ha, h => by
    rw [allL] at h
    split at h
    · rename_i h1
      have := congrArg (fun x => x.2.2) h
      exact absurd this h1
    · rename_i h1
      split at h
      · simp at h
      · rename_i h2
        have h3 : oneL Y false false a = ((oneL Y false false a).1, (oneL Y false false a).2.1, 0) := by
          have : (oneL Y false false a).2.2 = 0 := Decidable.byContradiction h1
          rw [← this]
        obtain ⟨g1, g2, g3⟩ := one_back ha h3
        obtain ⟨b, hb⟩ := Int.eq_ofNat_of_zero_le g1
        rw [hb] at h g2 g3 h2
        rw [Int.toNat_natCast] at h g3
        obtain ⟨l, e1, e2, e3, e4, e5⟩ := all_inv n false _ b _ L R (by omega) h
        refine ⟨b :: l, by rw [e1]; simp, by rw [List.length_cons, e2], by rw [g3, e3, tl, List.append_assoc], fun x hx => ?_, fun hf => ?_⟩
        · rcases List.mem_cons.1 hx with rfl | hx
          · omega
          · exact e4 x hx
        · have : ((b : Nat) : Int) = a := Decidable.byContradiction fun h => h2 ⟨hf, h⟩
          simp; omega
theorem all_cut : ∀ (l : List Nat) (fi : Bool) (a k : Nat) (out : List Nat), a ≤ 15 → (∀ x ∈ l, x ≤ 15) → (fi = true → l.getD 0 a = a) → k < (tl a l).length → allL l.length fi ((tl a l).take k) a out = ([], [], 5)
  | [], _, _, _, _, _, _, _, h => by simp [tl] at h
  | b :: l, fi, a, k, out, ha, hl, hf, hk => by
    have hb := hl b (List.mem_cons_self ..)
    rw [List.length_cons, allL, tl]
    rw [tl, List.length_append] at hk
    rcases Nat.lt_or_ge k (stp a b).length with h | h
    · rw [List.take_append_of_le_length (Nat.le_of_lt h), one_cut ha hb h]
      rw [if_pos (by simp)]
    · rw [List.take_append, List.take_of_length_le h, one_stp ha hb]
      rw [if_neg (by simp), if_neg (by
        rintro ⟨h1, h2⟩
        have := hf h1
        simp at this
        subst this
        exact h2 rfl)]
      exact all_cut l false b (k - (stp a b).length) _ hb (fun x hx => hl x (List.mem_cons_of_mem _ hx)) (fun h => by cases h) (by omega)
/-- lengths, read -/
def readL (X : List Bool) (n : Nat) : List Nat × List Bool × Int :=
  if X.length < 4 then ([], [], 5)
  else if (allL n true (X.drop 4) (num (X.take 4) : Nat) []).2.2 ≠ 0 then ([], [], (allL n true (X.drop 4) (num (X.take 4) : Nat) []).2.2)
  else if okC (up (allL n true (X.drop 4) (num (X.take 4) : Nat) []).1) then allL n true (X.drop 4) (num (X.take 4) : Nat) [] else ([], [], 7)
theorem num_four (X : List Bool) (h : 4 ≤ X.length) : num (X.take 4) ≤ 15 := by
  match X, h with
  | a :: b :: c :: d :: r, _ =>
    show num [a, b, c, d] ≤ 15
    cases a <;> cases b <;> cases c <;> cases d <;> decide
theorem num_nbits {v : Nat} (h : v ≤ 15) : num (nbits v 4) = v := by
  have : ∀ v, v ≤ 15 → num (nbits v 4) = v := by decide
  exact this v h
theorem read_tbl {l : List Nat} (h0 : l ≠ []) (h15 : ∀ x ∈ l, x ≤ 15) (hok : okC (up l)) (R : List Bool) : readL (tbl l ++ R) l.length = (l, R, 0) := by
  obtain ⟨a, r, rfl⟩ : ∃ a r, l = a :: r := by
    cases l with
    | nil => exact absurd rfl h0
    | cons a r => exact ⟨a, r, rfl⟩
  have ha := h15 a (List.mem_cons_self ..)
  have hg : (a :: r).getD 0 0 = a := rfl
  have hl4 : (nbits a 4).length = 4 := nbits_length _ _
  have e1 : (tbl (a :: r) ++ R).take 4 = nbits a 4 := by
    unfold tbl
    rw [hg, List.append_assoc, List.take_append_of_le_length (by omega), List.take_of_length_le (by omega)]
  have e2 : (tbl (a :: r) ++ R).drop 4 = tl a (a :: r) ++ R := by
    unfold tbl
    rw [hg, List.append_assoc, List.drop_append, List.drop_of_length_le (by omega), hl4]; simp
  unfold readL
  rw [if_neg (by unfold tbl; rw [hg]; simp [hl4]), e1, e2, num_nbits ha, all_tl (a :: r) true a R [] ha h15 (fun _ => rfl)]
  simp [hok]
theorem read_inv {X : List Bool} {n : Nat} {l : List Nat} {R : List Bool} (hn : 1 ≤ n) (h : readL X n = (l, R, 0)) : X = tbl l ++ R ∧ okC (up l) ∧ l.length = n ∧ (∀ x ∈ l, x ≤ 15) := by
  unfold readL at h
  split at h
  · simp at h
  · rename_i h4
    split at h
    · rename_i h1
      have := congrArg (fun x => x.2.2) h
      exact absurd this h1
    · split at h
      · rename_i h2
        rw [h] at h2
        have h15 := num_four X (by omega)
        obtain ⟨l', e1, e2, e3, e4, e5⟩ := all_inv n true _ _ _ l R h15 h
        rw [List.nil_append] at e1
        subst e1
        refine ⟨?_, h2, e2, e4⟩
        have hhd : l.getD 0 0 = num (X.take 4) := by
          have := e5 rfl
          cases l with
          | nil => simp at e2; omega
          | cons a r => simpa using this
        unfold tbl
        rw [hhd, List.append_assoc, ← e3]
        have : nbits (num (X.take 4)) 4 = X.take 4 := nbits_num 4 _ (by rw [List.length_take]; omega)
        rw [this, List.take_append_drop]
      · simp at h
theorem read_cut {l : List Nat} (h0 : l ≠ []) (h15 : ∀ x ∈ l, x ≤ 15) {k : Nat} (hk : k < (tbl l).length) : readL ((tbl l).take k) l.length = ([], [], 5) := by
  obtain ⟨a, r, rfl⟩ : ∃ a r, l = a :: r := by
    cases l with
    | nil => exact absurd rfl h0
    | cons a r => exact ⟨a, r, rfl⟩
  have ha := h15 a (List.mem_cons_self ..)
  have hg : (a :: r).getD 0 0 = a := rfl
  have hl4 : (nbits a 4).length = 4 := nbits_length _ _
  unfold tbl at hk ⊢
  rw [hg] at hk ⊢
  rw [List.length_append, hl4] at hk
  unfold readL
  rcases Nat.lt_or_ge k 4 with h | h
  · rw [if_pos (by rw [List.length_take]; omega)]
  · rw [if_neg (by rw [List.length_take, List.length_append, hl4]; omega)]
    have e1 : ((nbits a 4 ++ tl a (a :: r)).take k).take 4 = nbits a 4 := by
      rw [List.take_take, Nat.min_eq_left h, List.take_append_of_le_length (by omega), List.take_of_length_le (by omega)]
    have e2 : ((nbits a 4 ++ tl a (a :: r)).take k).drop 4 = (tl a (a :: r)).take (k - 4) := by
      rw [List.take_append, List.take_of_length_le (by omega : (nbits a 4).length ≤ k), List.drop_append, List.drop_of_length_le (by omega), hl4]; simp
    rw [e1, e2, num_nbits ha, all_cut (a :: r) true a (k - 4) [] ha h15 (fun _ => rfl) (by omega)]
    simp
def nats (ls : List Int) : List Nat := ls.map Int.toNat
theorem nats_length (ls : List Int) : (nats ls).length = ls.length := by simp [nats]
theorem up_nats : ∀ {ls : List Int}, (∀ z ∈ ls, 0 ≤ z) → up (nats ls) = ls
  | [], _ => rfl
  | z :: ls, h => by
    have ih := up_nats (ls := ls) (fun y hy => h y (List.mem_cons_of_mem _ hy))
    have hz := h z (List.mem_cons_self ..)
    unfold up nats at ih ⊢
    rw [List.map_cons, List.map_cons, ih]
    congr 1
    omega
theorem nats_up : ∀ l : List Nat, nats (up l) = l
  | [] => rfl
  | x :: l => by
    have ih := nats_up l
    unfold nats up at ih ⊢
    rw [List.map_cons, List.map_cons, ih, Int.toNat_natCast]
theorem ok_all {ls : List Int} (h : okC ls) : ∀ z ∈ ls, 0 ≤ z ∧ z ≤ 15 := fun z hz => by
  obtain ⟨i, hi, rfl⟩ := List.getElem_of_mem hz
  have := (rt_of h).all i hi
  rw [List.getD_eq_getElem?_getD, List.getElem?_eq_getElem hi, Option.getD_some] at this
  exact this
theorem nats_15 {ls : List Int} (h : okC ls) : ∀ x ∈ nats ls, x ≤ 15 := fun x hx => by
  unfold nats at hx
  rw [List.mem_map] at hx
  obtain ⟨z, hz, rfl⟩ := hx
  have := ok_all h z hz
  omega
end Go.Proofs.Ytjnehpkkkmicfaa.Tb2
namespace Go.Proofs.Ytjnehpkkkmicfaa.Tb2
open Go.RowKit Go.Lib Rw Ls Od _root_.Go.Proofs.Ytjnehpkkkmicfaa.Nm Pk Bt Cn

noncomputable def twR (s : ByteArray) (n : Int) (ls : List Int) : ByteArray × Int × Int :=
  if chk s n = 0 then (if ls ≠ [] ∧ okC ls then (if n + (tbl (nats ls)).length ≤ 1048576 then (packS (bl (Bt.bytes s) n.toNat ++ tbl (nats ls)), n + (tbl (nats ls)).length, 0) else (s, n, 8)) else (⟨#[]⟩, 0, 7)) else (⟨#[]⟩, 0, 2)
def trR (s : ByteArray) (n z k : Int) : List Nat × Int × Int :=
  if chk s n = 0 then (if z < 0 ∨ n < z ∨ k < 1 ∨ 512 < k then ([], 0, 1) else if (readL ((bl (Bt.bytes s) n.toNat).drop z.toNat) k.toNat).2.2 = 0 then ((readL ((bl (Bt.bytes s) n.toNat).drop z.toNat) k.toNat).1, n - (readL ((bl (Bt.bytes s) n.toNat).drop z.toNat) k.toNat).2.1.length, 0) else ([], 0, (readL ((bl (Bt.bytes s) n.toNat).drop z.toNat) k.toNat).2.2)) else ([], 0, 2)
def tsR (ls : List Int) : Int × Int := if ls ≠ [] ∧ okC ls then (((tbl (nats ls)).length : Int), 0) else (0, 7)
def RlP (w : World) (o : List Nat × Int × Int) (e : Ending) (w' : World) : Prop := ∃ (q : Option Addr) (c : Nat), e = .returned (.tuple #[.slice q o.1.length c, .int .i64 o.2.1, .int .i64 o.2.2]) ∧ o.1.length ≤ c ∧ Rd w' q (zs (up o.1)) ∧ Below w.heap.size w w'
/-- with how many there are as a number -/
def RlN (w : World) (m : Nat) (L : List Nat) (a r : Int) (e : Ending) (w' : World) : Prop := ∃ (q : Option Addr) (c : Nat), e = .returned (.tuple #[.slice q m c, .int .i64 a, .int .i64 r]) ∧ m ≤ c ∧ Rd w' q (zs (up L)) ∧ Below w.heap.size w w'
theorem rln_of {w : World} {m : Nat} {o : List Nat × Int × Int} {L : List Nat} {a r : Int} (h : o = (L, a, r)) (hn : L.length = m) {f : FuncId} {x : Array Value} {P : Program} (hc : Calls P f x w (RlP w o)) : Calls P f x w (RlN w m L a r) := by subst h; subst hn; exact hc
structure TblC : Prop where
  write : ∀ (s : ByteArray) (n : Int) (ls : List Int) (p : Option Addr) (c : Nat) (w : World), s.size ≤ maxLen → Rd w p (zs ls) → ls.length ≤ 17592186044416 → Calls Try.prog 26 #[.agg #[.string s, .int .i64 n], .slice p ls.length c] w (WrP w (twR s n ls))
  read : ∀ (s : ByteArray) (n z k : Int) (w : World), s.size ≤ maxLen → (-9223372036854775808 ≤ z ∧ z ≤ 9223372036854775807) → (-9223372036854775808 ≤ k ∧ k ≤ 9223372036854775807) → Calls Try.prog 27 #[.agg #[.string s, .int .i64 n], .int .i64 z, .int .i64 k] w (RlP w (trR s n z k))
  size : ∀ (ls : List Int) (p : Option Addr) (c : Nat) (w : World), Rd w p (zs ls) → ls.length ≤ 17592186044416 → Calls Try.prog 28 #[.slice p ls.length c] w fun e w' => e = .returned (.tuple #[.int .i64 (tsR ls).1, .int .i64 (tsR ls).2]) ∧ Below w.heap.size w w'
theorem tw_cases (s : ByteArray) (n : Int) (ls : List Int) : (∃ S N E, twR s n ls = (S, N, E) ∧ E ≠ 0 ∧ (s = ⟨#[]⟩ → n = 0 → S = ⟨#[]⟩ ∧ N = 0)) ∨ (chk s n = 0 ∧ ls ≠ [] ∧ okC ls ∧ n + (tbl (nats ls)).length ≤ 1048576 ∧ twR s n ls = (packS (bl (Bt.bytes s) n.toNat ++ tbl (nats ls)), n + (tbl (nats ls)).length, 0)) := by
  unfold twR
  split
  · rename_i h1
    split
    · rename_i h2
      split
      · rename_i h3
        exact .inr ⟨h1, h2.1, h2.2, h3, rfl⟩
      · exact .inl ⟨_, _, _, rfl, by decide, fun h1 h2 => ⟨h1, h2⟩⟩
    · exact .inl ⟨_, _, _, rfl, by decide, fun _ _ => ⟨rfl, rfl⟩⟩
  · exact .inl ⟨_, _, _, rfl, by decide, fun _ _ => ⟨rfl, rfl⟩⟩
theorem readL_err (X : List Bool) (n : Nat) : (readL X n).2.2 = 0 ∨ (readL X n).1 = [] := by
  unfold readL
  split
  · exact .inr rfl
  · split
    · exact .inr rfl
    · split
      · rename_i h1 h2
        exact .inl (Decidable.byContradiction h1)
      · exact .inr rfl
theorem tr_cases (s : ByteArray) (n z k : Int) : (∃ E, trR s n z k = ([], 0, E) ∧ E ≠ 0) ∨ (chk s n = 0 ∧ 0 ≤ z ∧ z ≤ n ∧ 1 ≤ k ∧ k ≤ 512 ∧ ∃ l R, (bl (Bt.bytes s) n.toNat).drop z.toNat = tbl l ++ R ∧ okC (up l) ∧ l.length = k.toNat ∧ (∀ x ∈ l, x ≤ 15) ∧ trR s n z k = (l, z + (tbl l).length, 0)) := by
  unfold trR
  split
  · rename_i h1
    split
    · exact .inl ⟨_, rfl, by decide⟩
    · rename_i h2
      split
      · rename_i h3
        right
        have hR := chk_zero h1
        obtain ⟨l, R, E, he⟩ : ∃ l R E, readL ((bl (Bt.bytes s) n.toNat).drop z.toNat) k.toNat = (l, R, E) := ⟨_, _, _, rfl⟩
        rw [he] at h3 ⊢
        simp only at h3
        subst h3
        obtain ⟨g1, g2, g3, g4⟩ := read_inv (by omega) he
        refine ⟨h1, by omega, by omega, by omega, by omega, l, R, g1, g2, g3, g4, ?_⟩
        have hl := congrArg List.length g1
        rw [List.length_drop, bl_length, List.length_append] at hl
        have := hR.1
        show (l, n - (R.length : Int), (0 : Int)) = _
        congr 2
        omega
      · rename_i h3
        exact .inl ⟨_, rfl, h3⟩
  · exact .inl ⟨_, rfl, by decide⟩
/-- what was written behind bits is read there -/
theorem tr_written {s : ByteArray} {n : Int} {ls : List Int} (h1 : chk s n = 0) (h2 : ls ≠ []) (h3 : okC ls) (h4 : n + (tbl (nats ls)).length ≤ 1048576) :
    trR (packS (bl (Bt.bytes s) n.toNat ++ tbl (nats ls))) (n + (tbl (nats ls)).length) n ls.length = (nats ls, n + (tbl (nats ls)).length, 0) := by
  have hR := chk_zero h1
  obtain ⟨N, rfl⟩ := Int.eq_ofNat_of_zero_le hR.1
  obtain ⟨X, hX⟩ : ∃ X, X = bl (Bt.bytes s) N := ⟨_, rfl⟩
  have hXl : X.length = N := by rw [hX, bl_length]
  have hlen : 1 ≤ ls.length := by
    cases ls with
    | nil => exact absurd rfl h2
    | cons _ _ => simp
  have h512 := (rt_of h3).few
  rw [Int.toNat_natCast, ← hX]
  have hY : (X ++ tbl (nats ls)).length = N + (tbl (nats ls)).length := by rw [List.length_append, hXl]
  have e : (N : Int) + ((tbl (nats ls)).length : Nat) = (((X ++ tbl (nats ls)).length : Nat) : Int) := by rw [hY]; omega
  rw [e]
  have hYb : (X ++ tbl (nats ls)).length ≤ 1048576 := by omega
  have hrd := read_tbl (l := nats ls) (fun h => h2 (by unfold nats at h; simpa using h)) (nats_15 h3) (by rw [up_nats fun z hz => (ok_all h3 z hz).1]; exact h3) []
  rw [List.append_nil, nats_length] at hrd
  unfold trR
  rw [if_pos (packS_chk hYb), if_neg (by omega)]
  simp only [Int.toNat_natCast, packS_bits]
  rw [← hXl, List.drop_left, hrd]
  simp
theorem tr_cut {ls : List Int} (h2 : ls ≠ []) (h3 : okC ls) {k : Nat} (hk : k < (tbl (nats ls)).length) (hb : (tbl (nats ls)).length ≤ 1048576) :
    trR (packS ((tbl (nats ls)).take k)) (k : Int) 0 ls.length = ([], 0, 5) := by
  have hlen : 1 ≤ ls.length := by
    cases ls with
    | nil => exact absurd rfl h2
    | cons _ _ => simp
  have h512 := (rt_of h3).few
  have hl : ((tbl (nats ls)).take k).length = k := by rw [List.length_take]; omega
  have hrd := read_cut (l := nats ls) (fun h => h2 (by unfold nats at h; simpa using h)) (nats_15 h3) hk
  rw [nats_length] at hrd
  have hc := packS_chk (X := (tbl (nats ls)).take k) (by omega)
  have hp := packS_bits ((tbl (nats ls)).take k)
  rw [hl] at hc hp
  unfold trR
  rw [if_pos hc, if_neg (by omega)]
  simp only [Int.toNat_natCast, hp]
  rw [show (0 : Int).toNat = 0 from rfl, List.drop_zero, hrd]
  simp
end Go.Proofs.Ytjnehpkkkmicfaa.Tb2
namespace Go.Proofs.Ytjnehpkkkmicfaa.Tb2
open Go.RowKit Go.Lib Rw Ls Od _root_.Go.Proofs.Ytjnehpkkkmicfaa.Nm Pk Bt Cn

theorem tw1 : twR ⟨#[]⟩ 0 [1, 1] = (⟨#[16]⟩, 6, 0) := by
  have h1 : chk ⟨#[]⟩ 0 = 0 := by decide +kernel
  have h2 : ([1, 1] : List Int) ≠ [] ∧ okC [1, 1] := by decide +kernel
  have h3 : (0 : Int) + (tbl (nats [1, 1])).length ≤ 1048576 := by decide +kernel
  have h4 : bl (Bt.bytes ⟨#[]⟩) (0 : Int).toNat ++ tbl (nats [1, 1]) = [false, false, false, true, false, false] := by decide +kernel
  have h5 : (0 : Int) + (tbl (nats [1, 1])).length = 6 := by decide +kernel
  unfold twR
  rw [if_pos h1, if_pos h2, if_pos h3, h4, h5]
  rw [packS_of (l := [16]) (packs_of (by decide +kernel) (by decide +kernel))]
theorem tw2 : twR ⟨#[16]⟩ 6 [1, 1, 1] = (⟨#[]⟩, 0, 7) := by
  have h1 : chk ⟨#[16]⟩ 6 = 0 := by decide +kernel
  have h2 : ¬ (([1, 1, 1] : List Int) ≠ [] ∧ okC [1, 1, 1]) := by decide +kernel
  unfold twR
  rw [if_pos h1, if_neg h2]
theorem tr1 : trR ⟨#[16]⟩ 6 0 2 = ([1, 1], 6, 0) := by decide +kernel
theorem tr2 : trR ⟨#[16]⟩ 6 0 3 = ([], 0, 5) := by decide +kernel
theorem ts1 : tsR [2, 1, 0, 2] = (16, 0) ∧ tsR [] = (0, 7) := by decide +kernel
set_option maxHeartbeats 4000000 in
set_option maxRecDepth 100000 in
theorem lives_any (T : TblC) (w : World) : Calls Try.prog 25 #[] w fun e w' => e = .returned (.bool true) ∧ Below w.heap.size w w' := by
  have CA : Hid (∀ p c W, Rd W p (zs [1, 1]) → Calls Try.prog 26 #[.agg #[.string ⟨#[]⟩, .int .i64 0], .slice p 2 c] W (WrP W (⟨#[16]⟩, 6, 0))) := Lib.hid (fun p c W h => by
    rw [← tw1]; exact T.write ⟨#[]⟩ 0 [1, 1] p c W (by decide) h (by decide))
  have CB : Hid (∀ W, Calls Try.prog 27 #[.agg #[.string ⟨#[16]⟩, .int .i64 6], .int .i64 0, .int .i64 2] W (RlN W 2 [1, 1] 6 0)) := Lib.hid (fun W => rln_of tr1 rfl (T.read ⟨#[16]⟩ 6 0 2 W (by decide) (by decide) (by decide)))
  have CC : Hid (∀ p c W, Rd W p (zs [2, 1, 0, 2]) → Calls Try.prog 28 #[.slice p 4 c] W fun e w' => e = .returned (.tuple #[.int .i64 16, .int .i64 0]) ∧ Below W.heap.size W w') := Lib.hid (fun p c W h1 => by
    have h := T.size [2, 1, 0, 2] p c W h1 (by decide)
    rw [ts1.1] at h
    exact h)
  have CD : Hid (∀ p c W, Rd W p (zs [1, 1, 1]) → Calls Try.prog 26 #[.agg #[.string ⟨#[16]⟩, .int .i64 6], .slice p 3 c] W (WrP W (⟨#[]⟩, 0, 7))) := Lib.hid (fun p c W h => by
    rw [← tw2]; exact T.write ⟨#[16]⟩ 6 [1, 1, 1] p c W (by decide) h (by decide))
  have CE : Hid (∀ W, Calls Try.prog 27 #[.agg #[.string ⟨#[16]⟩, .int .i64 6], .int .i64 0, .int .i64 3] W (RlN W 0 [] 0 5)) := Lib.hid (fun W => rln_of tr2 rfl (T.read ⟨#[16]⟩ 6 0 3 W (by decide) (by decide) (by decide)))
  have CF : Hid (∀ W, Calls Try.prog 28 #[.slice none 0 0] W fun e w' => e = .returned (.tuple #[.int .i64 0, .int .i64 7]) ∧ Below W.heap.size W w') := Lib.hid (fun W => by
    have h := T.size [] none 0 W (Rd.nil _ _) (by decide)
    rw [ts1.2] at h
    exact h)
  have CS : Hid (∀ p c q d W, Rd W p (zs (up [1, 1])) → Rd W q (zs (up [1, 1])) → Calls Try.prog 29 #[.slice p 2 c, .slice q 2 d] W fun e w' => e = .returned (.bool true) ∧ Below W.heap.size W w') := Lib.hid (fun p c q d W h1 h2 => by
    have h := samenum_any (up [1, 1]) (up [1, 1]) p q c d W h1 h2 (by decide) (by decide)
    refine h.mono fun e w' (h : _ ∧ _) => ⟨by have := h.1; simpa using this, by first | exact h.2 | (rw [h.2]; exact Below.refl _ _) | (obtain ⟨j, h3⟩ := h.2; rw [h3]; exact below_drewN (Below.refl _ _) j)⟩)
  clear T
  have B : Hid (Below w.heap.size w w) := Lib.hid (Below.refl _ _)
  go_enter Try.func25, Try.ntmps25
  go_wp2_with fail
  refine (CA.out _ _ _ (Rd.new _ #[.int .i64 1, .int .i64 1] _)).mono ?_
  rintro e w0 ⟨rfl, b⟩
  replace B := Lib.hid ((B.out.alloc (B.out.size) _).trans (b.mono (B.out.alloc (B.out.size) _).size))
  clear b
  have BX : Hid (Box (w0.alloc (.cells #[.string ⟨#[16]⟩, .int .i64 6] 35)) w0.heap.size ⟨#[16]⟩ 6) := Lib.hid (Box.new w0 ⟨#[16]⟩ 6)
  replace B := Lib.hid (B.out.alloc B.out.size (.cells #[.string ⟨#[16]⟩, .int .i64 6] 35))
  go_wp2_with fail
  refine (CB.out _).mono ?_
  rintro e w1 ⟨q1, c1, rfl, hc1, r1, b⟩
  replace BX := Lib.hid (BX.out.below b)
  replace B := Lib.hid (B.out.trans (b.mono B.out.size))
  have R1 := Lib.hid r1
  clear b r1
  go_wp2_with fail
  refine (CC.out _ _ _ (Rd.new _ #[.int .i64 2, .int .i64 1, .int .i64 0, .int .i64 2] _)).mono ?_
  rintro e w2 ⟨rfl, b⟩
  replace BX := Lib.hid ((BX.out.alloc _).below b)
  replace R1 := Lib.hid ((R1.out.alloc _).below b)
  replace B := Lib.hid ((B.out.alloc (B.out.size) _).trans (b.mono (B.out.alloc (B.out.size) _).size))
  clear b
  have b0 := BX.out.c0; have b1 := BX.out.c1
  go_wp2_with fail
  clear b0 b1
  refine (CD.out _ _ _ (Rd.new _ #[.int .i64 1, .int .i64 1, .int .i64 1] _)).mono ?_
  rintro e w3 ⟨rfl, b⟩
  replace BX := Lib.hid ((BX.out.alloc _).below b)
  replace R1 := Lib.hid ((R1.out.alloc _).below b)
  replace B := Lib.hid ((B.out.alloc (B.out.size) _).trans (b.mono (B.out.alloc (B.out.size) _).size))
  clear b
  replace BX := Lib.hid (BX.out.alloc (.cells #[.string ⟨#[]⟩, .int .i64 0] 35))
  replace R1 := Lib.hid (R1.out.alloc (.cells #[.string ⟨#[]⟩, .int .i64 0] 35))
  replace B := Lib.hid (B.out.alloc B.out.size (.cells #[.string ⟨#[]⟩, .int .i64 0] 35))
  have b0 := BX.out.c0; have b1 := BX.out.c1
  go_wp2_with fail
  clear b0 b1
  refine (CE.out _).mono ?_
  rintro e w4 ⟨q2, c2, rfl, hc2, r2, b⟩
  replace BX := Lib.hid (BX.out.below b)
  replace R1 := Lib.hid (R1.out.below b)
  replace B := Lib.hid (B.out.trans (b.mono B.out.size))
  have R2 := Lib.hid r2
  clear b r2
  go_wp2_with fail
  refine (CF.out _).mono ?_
  rintro e w5 ⟨rfl, b⟩
  replace BX := Lib.hid (BX.out.below b)
  replace R1 := Lib.hid (R1.out.below b)
  replace R2 := Lib.hid (R2.out.below b)
  replace B := Lib.hid (B.out.trans (b.mono B.out.size))
  clear b
  have b0 := BX.out.c0; have b1 := BX.out.c1
  go_wp2_with fail
  clear b0 b1
  refine (CS.out _ _ _ _ _ (R1.out.alloc _) (Rd.new _ #[.int .i64 1, .int .i64 1] _)).mono ?_
  rintro e w6 ⟨rfl, b⟩
  replace BX := Lib.hid ((BX.out.alloc _).below b)
  replace R1 := Lib.hid ((R1.out.alloc _).below b)
  replace R2 := Lib.hid ((R2.out.alloc _).below b)
  replace B := Lib.hid ((B.out.alloc (B.out.size) _).trans (b.mono (B.out.alloc (B.out.size) _).size))
  clear b
  go_wp2_with fail
  go_ret
  exact ⟨rfl, B.out⟩
end Go.Proofs.Ytjnehpkkkmicfaa.Tb2
