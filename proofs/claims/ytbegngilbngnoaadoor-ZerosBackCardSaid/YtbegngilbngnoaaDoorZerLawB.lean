/- The law ZerosBack. -/
import Derived.Test.YtbegngilbngnoaaDoorZerLawC
namespace Go.Proofs.YtbegngilbngnoaaDoor.Ze
open Go.RowKit Go.Lib Rw Ls Od _root_.Go.Proofs.YtbegngilbngnoaaDoor.Nm

theorem dec_bad (M : Nat) : ∀ (l : List Nat) (i : Nat) (out run t : List Nat) (n e : Nat), dec M l i out run = (t, n, e) → e ≠ 0 → t = [] ∧ n = 0
  | [], i, out, run, t, n, e, h, he => by
    rw [dec] at h
    split at h <;> simp only [Prod.mk.injEq] at h <;> exact ⟨h.1.symm, h.2.1.symm⟩
  | x :: l, i, out, run, t, n, e, h, he => by
    rw [dec] at h
    by_cases h1 : x < 2
    · rw [if_pos h1] at h; exact dec_bad M l _ _ _ t n e h he
    · rw [if_neg h1] at h
      by_cases h2 : M - out.length < nm run
      · rw [if_pos h2] at h; simp only [Prod.mk.injEq] at h; exact ⟨h.1.symm, h.2.1.symm⟩
      · rw [if_neg h2] at h
        by_cases h3 : 258 ≤ x
        · rw [if_pos h3] at h; simp only [Prod.mk.injEq] at h; exact ⟨h.1.symm, h.2.1.symm⟩
        · rw [if_neg h3] at h
          by_cases h4 : x = 257
          · rw [if_pos h4] at h; simp only [Prod.mk.injEq] at h; omega
          · rw [if_neg h4] at h
            by_cases h5 : out.length + nm run = M
            · rw [if_pos h5] at h; simp only [Prod.mk.injEq] at h; exact ⟨h.1.symm, h.2.1.symm⟩
            · rw [if_neg h5] at h; exact dec_bad M l _ _ _ t n e h he
theorem dec_lt (M : Nat) : ∀ (l : List Nat) (i : Nat) (out run t : List Nat) (n e : Nat), dec M l i out run = (t, n, e) → (∀ x ∈ out, x < 256) → ∀ x ∈ t, x < 256
  | [], i, out, run, t, n, e, h, ho => by
    rw [dec] at h
    split at h <;> simp only [Prod.mk.injEq] at h <;> (intro x hx; rw [← h.1] at hx; simp at hx)
  | x :: l, i, out, run, t, n, e, h, ho => by
    have hno : ∀ y, y ∈ ([] : List Nat) → y < 256 := fun y hy => by simp at hy
    rw [dec] at h
    by_cases h1 : x < 2
    · rw [if_pos h1] at h; exact dec_lt M l _ _ _ t n e h ho
    · rw [if_neg h1] at h
      by_cases h2 : M - out.length < nm run
      · rw [if_pos h2] at h; simp only [Prod.mk.injEq] at h; rw [← h.1]; exact hno
      · rw [if_neg h2] at h
        have hz : ∀ y ∈ out ++ List.replicate (nm run) 0, y < 256 := fun y hy => by
          rcases List.mem_append.1 hy with hy | hy
          · exact ho y hy
          · rw [List.eq_of_mem_replicate hy]; omega
        by_cases h3 : 258 ≤ x
        · rw [if_pos h3] at h; simp only [Prod.mk.injEq] at h; rw [← h.1]; exact hno
        · rw [if_neg h3] at h
          by_cases h4 : x = 257
          · rw [if_pos h4] at h; simp only [Prod.mk.injEq] at h; rw [← h.1]; exact hz
          · rw [if_neg h4] at h
            by_cases h5 : out.length + nm run = M
            · rw [if_pos h5] at h; simp only [Prod.mk.injEq] at h; rw [← h.1]; exact hno
            · rw [if_neg h5] at h
              refine dec_lt M l _ _ _ t n e h fun y hy => ?_
              rcases List.mem_append.1 hy with hy | hy
              · exact hz y hy
              · rw [List.mem_singleton] at hy; omega
/-- what symbols that are bytes' tell of Encode -/
theorem dc_good {l t : List Nat} {k : Nat} (h : dcA l = (t, k, 0)) : (∀ x ∈ t, x < 256) ∧ enL t = l.take k ∧ enE t = 0 ∧ 1 ≤ k ∧ k ≤ l.length := by
  obtain ⟨h1, s, e1, e2, e3, e4⟩ := enc_dec 65536 l 0 [] [] t k (by simp) (by simp) h
  rw [List.nil_append] at e1 e2
  subst e1
  refine ⟨dec_lt 65536 l 0 [] [] t k 0 h (by simp), ?_, if_pos h1, by omega, by omega⟩
  rw [show enL t = encR 0 t from if_pos h1, e2, Nat.sub_zero]
theorem en_good {s : ByteArray} (h : s.size ≤ 65536) : dcA (encR 0 (bsN s)) = (bsN s, (encR 0 (bsN s)).length, 0) := by
  have := dec_enc 65536 (bsN s) 0 0 [] (bsN_lt s) (by rw [bsN_length]; simp; exact h)
  rw [Nat.zero_add] at this
  simpa [dcA] using this
set_option maxHeartbeats 4000000 in
set_option maxRecDepth 100000 in
theorem back_yy (s : ByteArray) (l : List Nat) (p : Option Addr) (m c : Nat) (w : World) (hm : m = l.length) (hp : Rd w p (nums l)) (hlc : m ≤ c) (hl : m ≤ 17592186044416) (hs : s.size ≤ 65536) (t : List Nat) (k : Nat) (hd : dcA l = (t, k, 0)) :
    Calls Tryd.prog 5 #[.string s, .slice p m c] w fun e w' => e = .returned (.bool true) ∧ Below w.heap.size w w' := by
  have CL := Lib.hid (fun W => lives_any W)
  obtain ⟨L, n, hL, hn, CA0, CB0⟩ : ∃ (L : List Nat) (n : Nat), L.length = n ∧ n ≤ s.size + 1 ∧ (∀ W, Calls Tryd.prog 8 #[.string s] W (NEn W n L 0)) ∧ (∀ q d W, Rd W q (nums L) → n ≤ d → Calls Tryd.prog 10 #[.slice q n d] W fun e w' => e = .returned (.tuple #[.string s, .int .i64 (n : Nat), .int .i64 0]) ∧ Below W.heap.size W w') := by
    have h1 := enc_le (bsN s) 0
    rw [bsN_length] at h1
    have h2 : enL (bsN s) = encR 0 (bsN s) ∧ enE (bsN s) = 0 := ⟨if_pos (by rw [bsN_length]; exact hs), if_pos (by rw [bsN_length]; exact hs)⟩
    refine ⟨encR 0 (bsN s), _, rfl, by omega, fun W => ?_, fun q d W h h9 => ?_⟩
    · have h3 := pencode_any s W
      rw [h2.1, h2.2] at h3
      exact nen_of rfl h3
    · have h3 := pdecode_any (encR 0 (bsN s)) q d W h h9 (by omega)
      rw [en_good hs] at h3
      unfold DeP at h3
      rw [ofN_bsN] at h3
      exact h3
  have CA := Lib.hid CA0; have CB := Lib.hid CB0
  have s1 : (s.toList == s.toList) = true := by rw [beq_iff_eq]
  have s2 : decide (((s.size : Nat) : Int) + 1 < (n : Int)) = false := decide_eq_false (by omega)
  have s3 : decide (s.size + 1 < n) = false := decide_eq_false (by omega)
  have s5 : IntKind.i64.wrap ((s.size : Int) + 1) = (s.size : Int) + 1 := IntWalk.i64_in _ (by omega)
  have s6 : ((n : Int) == (n : Int)) = true := by rw [beq_iff_eq]
  clear CA0 CB0 hL hn hs
  obtain ⟨hlt, hen, hee, hk1, hk2⟩ := dc_good hd
  obtain ⟨T, hT⟩ : ∃ T, T = ofN t := ⟨_, rfl⟩
  have CD0 : ∀ W, Rd W p (nums l) → Calls Tryd.prog 10 #[.slice p l.length c] W fun e w' => e = .returned (.tuple #[.string T, .int .i64 (k : Nat), .int .i64 0]) ∧ Below W.heap.size W w' := fun W h => by
    have h3 := pdecode_any l p c W h (by omega) (by omega)
    rw [hd] at h3
    unfold DeP at h3
    rw [hT]
    exact h3
  have CE : Hid (∀ W, Calls Tryd.prog 8 #[.string T] W (NEn W k (l.take k) 0)) := Lib.hid (fun W => by
    have h3 := pencode_any T W
    rw [hT, bsN_ofN hlt, hen, hee] at h3
    rw [hT]
    exact nen_of (by rw [List.length_take]; omega) h3)
  have CS := Lib.hid (fun W (p c q d) (h1 : Rd W p (nums (l.take k))) (h2 : Rd W q (nums (l.take k))) => same_self (n := k) (by rw [List.length_take]; omega) (by omega) p c q d h1 h2)
  obtain ⟨a, rfl, _⟩ := hp.form (by rw [nums_length]; omega)
  rw [← hm] at CD0 hk2
  have CD := Lib.hid CD0
  have P := Lib.hid hp
  have HTK : Hid (∀ W, Rd W (some a) (nums l) → Rd W (some a) (nums (l.take k))) := Lib.hid (fun W h => by
    have := h.take k
    rwa [show (nums l).take k = nums (l.take k) by simp [nums, List.map_take]] at this)
  have l1 : decide ((1 : Int) ≤ (k : Int)) = true := decide_eq_true (by omega)
  have l2 : decide (1 ≤ k) = true := decide_eq_true hk1
  have l3 : decide ((k : Int) ≤ (m : Int)) = true := decide_eq_true (by omega)
  have l4 : decide (k ≤ m) = true := decide_eq_true hk2
  have l5 : (0 : Int) ≤ (k : Int) := by omega
  have l6 : (k : Int) ≤ (c : Int) := by omega
  clear CD0 hlt hen hee hd hT hp hm
  have B : Hid (Below w.heap.size w w) := Lib.hid (Below.refl _ _)
  go_enter Tryd.func5, Tryd.ntmps5
  go_wp2_with fail
  refine (CL.out _).mono ?_
  rintro e w0 ⟨rfl, b⟩
  replace P := Lib.hid (P.out.below b)
  replace B := Lib.hid (B.out.trans (b.mono B.out.size))
  clear b
  go_wp2_with fail
  refine (CA.out _).mono ?_
  rintro e w1 ⟨q1, c1, rfl, hc1, r1, b⟩
  replace P := Lib.hid (P.out.below b)
  replace B := Lib.hid (B.out.trans (b.mono B.out.size))
  have R1 := Lib.hid r1
  clear b r1
  go_wp2_with fail
  refine (CB.out _ _ _ R1.out hc1).mono ?_
  rintro e w2 ⟨rfl, b⟩
  replace P := Lib.hid (P.out.below b)
  replace R1 := Lib.hid (R1.out.below b)
  replace B := Lib.hid (B.out.trans (b.mono B.out.size))
  clear b
  clear R1
  go_wp2_with fail
  refine (CD.out _ P.out).mono ?_
  rintro e w3 ⟨rfl, b⟩
  replace P := Lib.hid (P.out.below b)
  replace B := Lib.hid (B.out.trans (b.mono B.out.size))
  clear b
  go_wp2_with fail
  refine (CE.out _).mono ?_
  rintro e w4 ⟨q4, c4, rfl, hc4, r4, b⟩
  replace P := Lib.hid (P.out.below b)
  replace B := Lib.hid (B.out.trans (b.mono B.out.size))
  have R4 := Lib.hid r4
  clear b r4
  have P4 := Lib.hid (HTK.out _ P.out)
  go_wp2_with fail
  refine (CS.out _ _ _ _ _ R4.out P4.out).mono ?_
  rintro e w5 ⟨rfl, b⟩
  replace P := Lib.hid (P.out.below b)
  replace R4 := Lib.hid (R4.out.below b)
  replace B := Lib.hid (B.out.trans (b.mono B.out.size))
  clear b
  go_wp2_with fail
  go_ret
  exact ⟨rfl, B.out⟩
set_option maxHeartbeats 4000000 in
set_option maxRecDepth 100000 in
theorem back_yn (s : ByteArray) (l : List Nat) (p : Option Addr) (m c : Nat) (w : World) (hm : m = l.length) (hp : Rd w p (nums l)) (_hlc : m ≤ c) (hl : m ≤ 17592186044416) (hs : s.size ≤ 65536) (y : Nat) (hy : y ≠ 0) (hd : dcA l = ([], 0, y)) :
    Calls Tryd.prog 5 #[.string s, .slice p m c] w fun e w' => e = .returned (.bool true) ∧ Below w.heap.size w w' := by
  have CL := Lib.hid (fun W => lives_any W)
  obtain ⟨L, n, hL, hn, CA0, CB0⟩ : ∃ (L : List Nat) (n : Nat), L.length = n ∧ n ≤ s.size + 1 ∧ (∀ W, Calls Tryd.prog 8 #[.string s] W (NEn W n L 0)) ∧ (∀ q d W, Rd W q (nums L) → n ≤ d → Calls Tryd.prog 10 #[.slice q n d] W fun e w' => e = .returned (.tuple #[.string s, .int .i64 (n : Nat), .int .i64 0]) ∧ Below W.heap.size W w') := by
    have h1 := enc_le (bsN s) 0
    rw [bsN_length] at h1
    have h2 : enL (bsN s) = encR 0 (bsN s) ∧ enE (bsN s) = 0 := ⟨if_pos (by rw [bsN_length]; exact hs), if_pos (by rw [bsN_length]; exact hs)⟩
    refine ⟨encR 0 (bsN s), _, rfl, by omega, fun W => ?_, fun q d W h h9 => ?_⟩
    · have h3 := pencode_any s W
      rw [h2.1, h2.2] at h3
      exact nen_of rfl h3
    · have h3 := pdecode_any (encR 0 (bsN s)) q d W h h9 (by omega)
      rw [en_good hs] at h3
      unfold DeP at h3
      rw [ofN_bsN] at h3
      exact h3
  have CA := Lib.hid CA0; have CB := Lib.hid CB0
  have s1 : (s.toList == s.toList) = true := by rw [beq_iff_eq]
  have s2 : decide (((s.size : Nat) : Int) + 1 < (n : Int)) = false := decide_eq_false (by omega)
  have s3 : decide (s.size + 1 < n) = false := decide_eq_false (by omega)
  have s5 : IntKind.i64.wrap ((s.size : Int) + 1) = (s.size : Int) + 1 := IntWalk.i64_in _ (by omega)
  have s6 : ((n : Int) == (n : Int)) = true := by rw [beq_iff_eq]
  clear CA0 CB0 hL hn hs
  have CD0 : ∀ W, Rd W p (nums l) → Calls Tryd.prog 10 #[.slice p l.length c] W fun e w' => e = .returned (.tuple #[.string ⟨#[]⟩, .int .i64 0, .int .i64 (y : Nat)]) ∧ Below W.heap.size W w' := fun W h => by
    have h3 := pdecode_any l p c W h (by omega) (by omega)
    rw [hd] at h3
    exact h3
  rw [← hm] at CD0
  have CD := Lib.hid CD0
  have P := Lib.hid hp
  have y1 : ((y : Int) == 0) = false := by rw [beq_eq_false_iff_ne]; omega
  have y2 : (y == 0) = false := by rw [beq_eq_false_iff_ne]; omega
  clear CD0 hd hp hm hy _hlc hl
  have B : Hid (Below w.heap.size w w) := Lib.hid (Below.refl _ _)
  go_enter Tryd.func5, Tryd.ntmps5
  go_wp2_with fail
  refine (CL.out _).mono ?_
  rintro e w0 ⟨rfl, b⟩
  replace P := Lib.hid (P.out.below b)
  replace B := Lib.hid (B.out.trans (b.mono B.out.size))
  clear b
  go_wp2_with fail
  refine (CA.out _).mono ?_
  rintro e w1 ⟨q1, c1, rfl, hc1, r1, b⟩
  replace P := Lib.hid (P.out.below b)
  replace B := Lib.hid (B.out.trans (b.mono B.out.size))
  have R1 := Lib.hid r1
  clear b r1
  go_wp2_with fail
  refine (CB.out _ _ _ R1.out hc1).mono ?_
  rintro e w2 ⟨rfl, b⟩
  replace P := Lib.hid (P.out.below b)
  replace R1 := Lib.hid (R1.out.below b)
  replace B := Lib.hid (B.out.trans (b.mono B.out.size))
  clear b
  clear R1
  go_wp2_with fail
  refine (CD.out _ P.out).mono ?_
  rintro e w3 ⟨rfl, b⟩
  replace P := Lib.hid (P.out.below b)
  replace B := Lib.hid (B.out.trans (b.mono B.out.size))
  clear b
  go_wp2_with fail
  go_ret
  exact ⟨rfl, B.out⟩
set_option maxHeartbeats 4000000 in
set_option maxRecDepth 100000 in
theorem back_ny (s : ByteArray) (l : List Nat) (p : Option Addr) (m c : Nat) (w : World) (hm : m = l.length) (hp : Rd w p (nums l)) (hlc : m ≤ c) (hl : m ≤ 17592186044416) (hs : ¬ s.size ≤ 65536) (t : List Nat) (k : Nat) (hd : dcA l = (t, k, 0)) :
    Calls Tryd.prog 5 #[.string s, .slice p m c] w fun e w' => e = .returned (.bool true) ∧ Below w.heap.size w w' := by
  have CL := Lib.hid (fun W => lives_any W)
  have CA : Hid (∀ W, Calls Tryd.prog 8 #[.string s] W (NEn W 0 [] 1)) := Lib.hid (fun W => by
    have h3 := pencode_any s W
    rw [show enL (bsN s) = [] from if_neg (by rw [bsN_length]; exact hs), show enE (bsN s) = 1 from if_neg (by rw [bsN_length]; exact hs)] at h3
    exact nen_of rfl h3)
  clear hs
  obtain ⟨hlt, hen, hee, hk1, hk2⟩ := dc_good hd
  obtain ⟨T, hT⟩ : ∃ T, T = ofN t := ⟨_, rfl⟩
  have CD0 : ∀ W, Rd W p (nums l) → Calls Tryd.prog 10 #[.slice p l.length c] W fun e w' => e = .returned (.tuple #[.string T, .int .i64 (k : Nat), .int .i64 0]) ∧ Below W.heap.size W w' := fun W h => by
    have h3 := pdecode_any l p c W h (by omega) (by omega)
    rw [hd] at h3
    unfold DeP at h3
    rw [hT]
    exact h3
  have CE : Hid (∀ W, Calls Tryd.prog 8 #[.string T] W (NEn W k (l.take k) 0)) := Lib.hid (fun W => by
    have h3 := pencode_any T W
    rw [hT, bsN_ofN hlt, hen, hee] at h3
    rw [hT]
    exact nen_of (by rw [List.length_take]; omega) h3)
  have CS := Lib.hid (fun W (p c q d) (h1 : Rd W p (nums (l.take k))) (h2 : Rd W q (nums (l.take k))) => same_self (n := k) (by rw [List.length_take]; omega) (by omega) p c q d h1 h2)
  obtain ⟨a, rfl, _⟩ := hp.form (by rw [nums_length]; omega)
  rw [← hm] at CD0 hk2
  have CD := Lib.hid CD0
  have P := Lib.hid hp
  have HTK : Hid (∀ W, Rd W (some a) (nums l) → Rd W (some a) (nums (l.take k))) := Lib.hid (fun W h => by
    have := h.take k
    rwa [show (nums l).take k = nums (l.take k) by simp [nums, List.map_take]] at this)
  have l1 : decide ((1 : Int) ≤ (k : Int)) = true := decide_eq_true (by omega)
  have l2 : decide (1 ≤ k) = true := decide_eq_true hk1
  have l3 : decide ((k : Int) ≤ (m : Int)) = true := decide_eq_true (by omega)
  have l4 : decide (k ≤ m) = true := decide_eq_true hk2
  have l5 : (0 : Int) ≤ (k : Int) := by omega
  have l6 : (k : Int) ≤ (c : Int) := by omega
  clear CD0 hlt hen hee hd hT hp hm
  have B : Hid (Below w.heap.size w w) := Lib.hid (Below.refl _ _)
  go_enter Tryd.func5, Tryd.ntmps5
  go_wp2_with fail
  refine (CL.out _).mono ?_
  rintro e w0 ⟨rfl, b⟩
  replace P := Lib.hid (P.out.below b)
  replace B := Lib.hid (B.out.trans (b.mono B.out.size))
  clear b
  go_wp2_with fail
  refine (CA.out _).mono ?_
  rintro e w1 ⟨q1, c1, rfl, hc1, r1, b⟩
  replace P := Lib.hid (P.out.below b)
  replace B := Lib.hid (B.out.trans (b.mono B.out.size))
  have R1 := Lib.hid r1
  clear b r1
  clear R1
  go_wp2_with fail
  refine (CD.out _ P.out).mono ?_
  rintro e w2 ⟨rfl, b⟩
  replace P := Lib.hid (P.out.below b)
  replace B := Lib.hid (B.out.trans (b.mono B.out.size))
  clear b
  go_wp2_with fail
  refine (CE.out _).mono ?_
  rintro e w3 ⟨q4, c4, rfl, hc4, r4, b⟩
  replace P := Lib.hid (P.out.below b)
  replace B := Lib.hid (B.out.trans (b.mono B.out.size))
  have R4 := Lib.hid r4
  clear b r4
  have P4 := Lib.hid (HTK.out _ P.out)
  go_wp2_with fail
  refine (CS.out _ _ _ _ _ R4.out P4.out).mono ?_
  rintro e w4 ⟨rfl, b⟩
  replace P := Lib.hid (P.out.below b)
  replace R4 := Lib.hid (R4.out.below b)
  replace B := Lib.hid (B.out.trans (b.mono B.out.size))
  clear b
  go_wp2_with fail
  go_ret
  exact ⟨rfl, B.out⟩
set_option maxHeartbeats 4000000 in
set_option maxRecDepth 100000 in
theorem back_nn (s : ByteArray) (l : List Nat) (p : Option Addr) (m c : Nat) (w : World) (hm : m = l.length) (hp : Rd w p (nums l)) (_hlc : m ≤ c) (hl : m ≤ 17592186044416) (hs : ¬ s.size ≤ 65536) (y : Nat) (hy : y ≠ 0) (hd : dcA l = ([], 0, y)) :
    Calls Tryd.prog 5 #[.string s, .slice p m c] w fun e w' => e = .returned (.bool true) ∧ Below w.heap.size w w' := by
  have CL := Lib.hid (fun W => lives_any W)
  have CA : Hid (∀ W, Calls Tryd.prog 8 #[.string s] W (NEn W 0 [] 1)) := Lib.hid (fun W => by
    have h3 := pencode_any s W
    rw [show enL (bsN s) = [] from if_neg (by rw [bsN_length]; exact hs), show enE (bsN s) = 1 from if_neg (by rw [bsN_length]; exact hs)] at h3
    exact nen_of rfl h3)
  clear hs
  have CD0 : ∀ W, Rd W p (nums l) → Calls Tryd.prog 10 #[.slice p l.length c] W fun e w' => e = .returned (.tuple #[.string ⟨#[]⟩, .int .i64 0, .int .i64 (y : Nat)]) ∧ Below W.heap.size W w' := fun W h => by
    have h3 := pdecode_any l p c W h (by omega) (by omega)
    rw [hd] at h3
    exact h3
  rw [← hm] at CD0
  have CD := Lib.hid CD0
  have P := Lib.hid hp
  have y1 : ((y : Int) == 0) = false := by rw [beq_eq_false_iff_ne]; omega
  have y2 : (y == 0) = false := by rw [beq_eq_false_iff_ne]; omega
  clear CD0 hd hp hm hy _hlc hl
  have B : Hid (Below w.heap.size w w) := Lib.hid (Below.refl _ _)
  go_enter Tryd.func5, Tryd.ntmps5
  go_wp2_with fail
  refine (CL.out _).mono ?_
  rintro e w0 ⟨rfl, b⟩
  replace P := Lib.hid (P.out.below b)
  replace B := Lib.hid (B.out.trans (b.mono B.out.size))
  clear b
  go_wp2_with fail
  refine (CA.out _).mono ?_
  rintro e w1 ⟨q1, c1, rfl, hc1, r1, b⟩
  replace P := Lib.hid (P.out.below b)
  replace B := Lib.hid (B.out.trans (b.mono B.out.size))
  have R1 := Lib.hid r1
  clear b r1
  clear R1
  go_wp2_with fail
  refine (CD.out _ P.out).mono ?_
  rintro e w2 ⟨rfl, b⟩
  replace P := Lib.hid (P.out.below b)
  replace B := Lib.hid (B.out.trans (b.mono B.out.size))
  clear b
  go_wp2_with fail
  go_ret
  exact ⟨rfl, B.out⟩
theorem back_law (s : ByteArray) (l : List Nat) (p : Option Addr) (c : Nat) (w : World) (hp : Rd w p (nums l)) (hlc : l.length ≤ c) (hl : l.length ≤ 17592186044416) :
    Calls Tryd.prog 5 #[.string s, .slice p l.length c] w fun e w' => e = .returned (.bool true) ∧ Below w.heap.size w w' := by
  obtain ⟨t, k, y, hd⟩ : ∃ t k y, dcA l = (t, k, y) := ⟨_, _, _, rfl⟩
  by_cases hy : y = 0
  · subst hy
    by_cases hs : s.size ≤ 65536
    · exact back_yy s l p _ c w rfl hp hlc hl hs t k hd
    · exact back_ny s l p _ c w rfl hp hlc hl hs t k hd
  · obtain ⟨rfl, rfl⟩ := dec_bad 65536 l 0 [] [] t k y hd hy
    by_cases hs : s.size ≤ 65536
    · exact back_yn s l p _ c w rfl hp hlc hl hs y hy hd
    · exact back_nn s l p _ c w rfl hp hlc hl hs y hy hd
end Go.Proofs.YtbegngilbngnoaaDoor.Ze
