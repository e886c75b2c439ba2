/- Runs of zeros as digits of one and two: the model. No function of the program in sight. -/
import Derived.Test.YtjnehpkkkmicfaaRows
namespace Go.Proofs.Ytjnehpkkkmicfaa.Ze

/-- a number's digits, each less one, the least first -/
def dg (n : Nat) : List Nat := if h : n = 0 then [] else if n % 2 = 1 then 0 :: dg ((n - 1) / 2) else 1 :: dg ((n - 2) / 2)
termination_by n
decreasing_by all_goals omega
theorem dg_zero : dg 0 = [] := by unfold dg; simp
theorem dg_odd {n : Nat} (h : n % 2 = 1) : dg n = 0 :: dg ((n - 1) / 2) := by
  rw [dg]; rw [dif_neg (by omega), if_pos h]
theorem dg_even {n : Nat} (h0 : n ≠ 0) (h : n % 2 = 0) : dg n = 1 :: dg ((n - 2) / 2) := by
  rw [dg]; rw [dif_neg h0, if_neg (by omega)]
/-- the number of digits -/
def nm : List Nat → Nat
  | [] => 0
  | d :: l => 2 * nm l + d + 1
theorem nm_dg (n : Nat) : nm (dg n) = n := by
  induction n using Nat.strongRecOn with
  | ind n ih =>
    by_cases h0 : n = 0
    · subst h0; rw [dg_zero]; rfl
    · by_cases h : n % 2 = 1
      · rw [dg_odd h, nm, ih _ (by omega)]; omega
      · rw [dg_even h0 (by omega), nm, ih _ (by omega)]; omega
theorem dg_lt (n : Nat) : ∀ d ∈ dg n, d < 2 := by
  induction n using Nat.strongRecOn with
  | ind n ih =>
    by_cases h0 : n = 0
    · subst h0; rw [dg_zero]; simp
    · by_cases h : n % 2 = 1
      · rw [dg_odd h]
        intro d hd
        rcases List.mem_cons.1 hd with rfl | hd
        · omega
        · exact ih _ (by omega) d hd
      · rw [dg_even h0 (by omega)]
        intro d hd
        rcases List.mem_cons.1 hd with rfl | hd
        · omega
        · exact ih _ (by omega) d hd
theorem dg_nm : ∀ (l : List Nat), (∀ d ∈ l, d < 2) → dg (nm l) = l
  | [], _ => dg_zero
  | d :: l, h => by
    have hd := h d (List.mem_cons_self ..)
    have ih := dg_nm l fun x hx => h x (List.mem_cons_of_mem _ hx)
    rw [nm]
    by_cases h0 : d = 0
    · subst h0
      rw [dg_odd (by omega), show (2 * nm l + 0 + 1 - 1) / 2 = nm l by omega, ih]
    · obtain rfl : d = 1 := by omega
      rw [dg_even (by omega) (by omega), show (2 * nm l + 1 + 1 - 2) / 2 = nm l by omega, ih]
theorem nm_zero {l : List Nat} (h : nm l = 0) : l = [] := by
  cases l with
  | nil => rfl
  | cons d l => rw [nm] at h; omega
theorem nm_drop : ∀ (l : List Nat) (k : Nat), nm (l.drop k) ≤ nm l
  | [], k => by simp
  | d :: l, 0 => by simp
  | d :: l, k + 1 => by
    have := nm_drop l k
    rw [List.drop_succ_cons, nm]; omega
theorem dg_length (n : Nat) : (dg n).length = Nat.log2 (n + 1) := by
  induction n using Nat.strongRecOn with
  | ind n ih =>
    by_cases h0 : n = 0
    · subst h0; rw [dg_zero]; rfl
    · have hl : Nat.log2 (n + 1) = Nat.log2 ((n + 1) / 2) + 1 := by
        rw [Nat.log2_def (n + 1), if_pos (by omega)]
      by_cases h : n % 2 = 1
      · rw [dg_odd h, List.length_cons, ih _ (by omega), hl, show (n - 1) / 2 + 1 = (n + 1) / 2 by omega]
      · rw [dg_even h0 (by omega), List.length_cons, ih _ (by omega), hl, show (n - 2) / 2 + 1 = (n + 1) / 2 by omega]
theorem dg_le (n : Nat) : (dg n).length ≤ n := by
  induction n using Nat.strongRecOn with
  | ind n ih =>
    by_cases h0 : n = 0
    · subst h0; rw [dg_zero]; simp
    · by_cases h : n % 2 = 1
      · have := ih ((n - 1) / 2) (by omega)
        rw [dg_odd h, List.length_cons]; omega
      · have := ih ((n - 2) / 2) (by omega)
        rw [dg_even h0 (by omega), List.length_cons]; omega
/-- symbols of bytes, r zeros waiting -/
def encR (r : Nat) : List Nat → List Nat
  | [] => dg r ++ [257]
  | c :: s => if c = 0 then encR (r + 1) s else dg r ++ (c + 1) :: encR 0 s
def estep (x : List Nat × Nat) (c : Nat) : List Nat × Nat := if c = 0 then (x.1, x.2 + 1) else (x.1 ++ dg x.2 ++ [c + 1], 0)
def es (s : List Nat) : List Nat × Nat := s.foldl estep ([], 0)
theorem es_snoc (s : List Nat) (c : Nat) : es (s ++ [c]) = estep (es s) c := by simp [es, List.foldl_append]
theorem enc_fold (t : List Nat) : ∀ (s : List Nat) (x : List Nat × Nat), (s.foldl estep x).1 ++ encR (s.foldl estep x).2 t = x.1 ++ encR x.2 (s ++ t)
  | [], x => rfl
  | c :: s, x => by
    rw [List.foldl_cons, enc_fold t s, List.cons_append, encR]
    unfold estep
    by_cases h : c = 0
    · rw [if_pos h, if_pos h]
    · rw [if_neg h, if_neg h]; simp
theorem es_enc (s : List Nat) : (es s).1 ++ dg (es s).2 ++ [257] = encR 0 s := by
  have := enc_fold [] s ([], 0)
  simp only [List.append_nil, List.nil_append, encR] at this
  rw [List.append_assoc]
  exact this
theorem enc_le : ∀ (s : List Nat) (r : Nat), (encR r s).length ≤ r + s.length + 1
  | [], r => by have := dg_le r; simp [encR]; omega
  | c :: s, r => by
    rw [encR]
    by_cases h : c = 0
    · rw [if_pos h]; have := enc_le s (r + 1); simp; omega
    · rw [if_neg h]; have := enc_le s 0; have := dg_le r; simp; omega
/-- what symbols tell: bytes, how many symbols, why none -/
def dec (M : Nat) : List Nat → Nat → List Nat → List Nat → List Nat × Nat × Nat
  | [], _, out, run => if M - out.length < nm run then ([], 0, 8) else ([], 0, 5)
  | x :: l, i, out, run =>
    if x < 2 then dec M l (i + 1) out (run ++ [x])
    else if M - out.length < nm run then ([], 0, 8)
    else if 258 ≤ x then ([], 0, 7)
    else if x = 257 then (out ++ List.replicate (nm run) 0, i + 1, 0)
    else if out.length + nm run = M then ([], 0, 8)
    else dec M l (i + 1) (out ++ List.replicate (nm run) 0 ++ [x - 1]) []
theorem dec_digits (M : Nat) : ∀ (ds rest : List Nat) (i : Nat) (out run : List Nat), (∀ d ∈ ds, d < 2) → dec M (ds ++ rest) i out run = dec M rest (i + ds.length) out (run ++ ds)
  | [], rest, i, out, run, _ => by simp
  | d :: ds, rest, i, out, run, h => by
    rw [List.cons_append, dec, if_pos (h d (List.mem_cons_self ..)), dec_digits M ds rest _ _ _ fun x hx => h x (List.mem_cons_of_mem _ hx)]
    simp; congr 1; omega
theorem dec_enc (M : Nat) : ∀ (s : List Nat) (r i : Nat) (out : List Nat), (∀ c ∈ s, c < 256) → out.length + r + s.length ≤ M →
    dec M (encR r s) i out [] = (out ++ List.replicate r 0 ++ s, i + (encR r s).length, 0)
  | [], r, i, out, _, hm => by
    rw [encR, dec_digits M _ _ _ _ _ (dg_lt r), dec, List.nil_append, nm_dg, if_neg (by omega), if_neg (by simp at hm; omega), if_neg (by omega), if_pos rfl]
    simp; omega
  | c :: s, r, i, out, hs, hm => by
    have hc := hs c (List.mem_cons_self ..)
    have hs2 : ∀ c ∈ s, c < 256 := fun x hx => hs x (List.mem_cons_of_mem _ hx)
    rw [List.length_cons] at hm
    rw [encR]
    by_cases h : c = 0
    · subst h
      rw [if_pos rfl, dec_enc M s (r + 1) i out hs2 (by omega), List.replicate_succ']
      simp
    · rw [if_neg h, dec_digits M _ _ _ _ _ (dg_lt r), dec, List.nil_append, nm_dg, if_neg (by omega), if_neg (by omega), if_neg (by omega), if_neg (by omega), if_neg (by omega),
        dec_enc M s 0 _ _ hs2 (by simp; omega)]
      simp; omega
theorem enc_zeros (s : List Nat) : ∀ (m r : Nat), encR r (List.replicate m 0 ++ s) = encR (r + m) s
  | 0, r => by simp
  | m + 1, r => by
    rw [List.replicate_succ, List.cons_append, encR, if_pos rfl, enc_zeros s m (r + 1)]
    congr 1; omega
theorem enc_dec (M : Nat) : ∀ (l : List Nat) (i : Nat) (out run t : List Nat) (n : Nat), (∀ d ∈ run, d < 2) → out.length ≤ M → dec M l i out run = (t, n, 0) →
    t.length ≤ M ∧ ∃ s, t = out ++ s ∧ encR 0 s = run ++ l.take (n - i) ∧ i < n ∧ n ≤ i + l.length
  | [], i, out, run, t, n, _, _, h => by
    rw [dec] at h
    split at h <;> simp at h
  | x :: l, i, out, run, t, n, hr, ho, h => by
    rw [dec] at h
    by_cases h1 : x < 2
    · rw [if_pos h1] at h
      obtain ⟨hm, s, e1, e2, e3, e4⟩ := enc_dec M l (i + 1) out (run ++ [x]) t n (fun d hd => by
        rcases List.mem_append.1 hd with hd | hd
        · exact hr d hd
        · rw [List.mem_singleton] at hd; omega) ho h
      refine ⟨hm, s, e1, ?_, by omega, by simp; omega⟩
      rw [e2, show n - i = (n - (i + 1)) + 1 by omega, List.take_succ_cons, List.append_assoc]; rfl
    · rw [if_neg h1] at h
      by_cases h2 : M - out.length < nm run
      · rw [if_pos h2] at h; simp at h
      · rw [if_neg h2] at h
        by_cases h3 : 258 ≤ x
        · rw [if_pos h3] at h; simp at h
        · rw [if_neg h3] at h
          by_cases h4 : x = 257
          · rw [if_pos h4] at h
            simp only [Prod.mk.injEq, and_true] at h
            obtain ⟨rfl, rfl⟩ := h
            refine ⟨by simp; omega, List.replicate (nm run) 0, rfl, ?_, by omega, by simp⟩
            have := enc_zeros [] (nm run) 0
            rw [List.append_nil, Nat.zero_add, encR, dg_nm run hr] at this
            rw [this, show i + 1 - i = 1 by omega, h4]; rfl
          · rw [if_neg h4] at h
            by_cases h5 : out.length + nm run = M
            · rw [if_pos h5] at h; simp at h
            · rw [if_neg h5] at h
              obtain ⟨hm, s, e1, e2, e3, e4⟩ := enc_dec M l (i + 1) _ [] t n (by simp) (by simp; omega) h
              refine ⟨hm, List.replicate (nm run) 0 ++ (x - 1) :: s, by rw [e1]; simp, ?_, by omega, by simp; omega⟩
              rw [enc_zeros, Nat.zero_add, encR, if_neg (by omega), dg_nm run hr, e2, show n - i = (n - (i + 1)) + 1 by omega, List.take_succ_cons, show x - 1 + 1 = x by omega]; rfl
end Go.Proofs.Ytjnehpkkkmicfaa.Ze
