/- The law PackLengths. -/
import Derived.Test.YtbegngilbngnoaaPkLives
namespace Go.Proofs.Ytbegngilbngnoaa.Pk
open Go.RowKit Go.Lib Rw Ls Od _root_.Go.Proofs.Ytbegngilbngnoaa.Nm

theorem lenR_le (ws : List Nat) (lim : Int) : (lenR ws lim).1.length ≤ 512 := by
  unfold lenR
  split
  · rename_i h
    split
    · simp
    · rw [lens_length]
      unfold okL at h
      simp only [Bool.and_eq_true] at h
      exact okW_len h.1.1
  · simp
set_option maxHeartbeats 4000000 in
set_option maxRecDepth 100000 in
theorem lengths_mid (n : Nat) (p : Option Addr) (c : Nat) (lim : Int) (q : Option Addr) (m d : Nat) (w : World) (h1 : 40 < n) (h2 : n ≤ 512) :
    Calls Try.prog 3 #[.slice p n c, .int .i64 lim, .slice q m d] w fun e w' => e = .returned (.bool true) ∧ Below w.heap.size w w' := by
  have CL := Lib.hid (fun W => lives_any W)
  have t1 : decide ((40 : Int) < (n : Int)) = true := decide_eq_true (by omega)
  have t2 : decide (40 < n) = true := decide_eq_true h1
  have t3 : decide ((n : Int) ≤ 512) = true := decide_eq_true (by omega)
  have t4 : decide (n ≤ 512) = true := decide_eq_true h2
  clear h1 h2
  have B : Hid (Below w.heap.size w w) := Lib.hid (Below.refl _ _)
  go_enter Try.func3, Try.ntmps3
  go_wp2_with fail
  refine (CL.out _).mono ?_
  rintro e w0 ⟨rfl, b⟩
  replace B := Lib.hid (B.out.trans (b.mono B.out.size))
  clear b
  go_wp2_with fail
  go_ret
  exact ⟨rfl, B.out⟩
set_option maxHeartbeats 4000000 in
set_option maxRecDepth 100000 in
theorem lengths_law (ws : List Nat) (lim : Int) (ls : List Int) (p q : Option Addr) (c d : Nat) (w : World) (hp : Rd w p (nums ws)) (hq : Rd w q (zs ls)) (hl : ws.length ≤ 17592186044416) (hm : ls.length ≤ 17592186044416) (hlim : -9223372036854775808 ≤ lim ∧ lim ≤ 9223372036854775807) :
    Calls Try.prog 3 #[.slice p ws.length c, .int .i64 lim, .slice q ls.length d] w fun e w' => e = .returned (.bool true) ∧ Below w.heap.size w w' := by
  by_cases hmid : 40 < ws.length ∧ ws.length ≤ 512
  · exact lengths_mid _ p c lim q _ d w hmid.1 hmid.2
  have CL := Lib.hid (fun W => lives_any W)
  have h5 := lenR_le ws lim
  obtain ⟨L, r, he⟩ : ∃ L r, lenR ws lim = (L, r) := ⟨_, _, rfl⟩
  rw [he] at h5
  obtain ⟨k, hk⟩ : ∃ k, k = L.length := ⟨_, rfl⟩
  replace h5 : k ≤ 512 := by rw [hk]; exact h5
  have CA0 : ∀ W, Rd W p (nums ws) → Calls Try.prog 8 #[.slice p ws.length c, .int .i64 lim] W (IEn W k L r) := fun W h => ien_of he hk.symm (plengths_any ws lim p c W h hl)
  have CB0 : ∀ W, Rd W p (nums ws) → Calls Try.prog 9 #[.slice p ws.length c, .int .i64 lim] W (IEn W k L r) := fun W h => ien_of he hk.symm (rlengths_any ws lim p c W h hl)
  have CC0 : ∀ W, Rd W p (nums ws) → Rd W q (zs ls) → Calls Try.prog 10 #[.slice p ws.length c, .slice q ls.length d] W fun e w' => e = .returned (.tuple #[.int .u64 ((costR ws ls).1 : Nat), .int .i64 (costR ws ls).2]) ∧ Below W.heap.size W w' := fun W h1 h2 => pcost_any ws ls p q c d W h1 h2 hl hm
  have CD0 : ∀ W, Rd W p (nums ws) → Rd W q (zs ls) → Calls Try.prog 11 #[.slice p ws.length c, .slice q ls.length d] W fun e w' => e = .returned (.tuple #[.int .u64 ((costR ws ls).1 : Nat), .int .i64 (costR ws ls).2]) ∧ Below W.heap.size W w' := fun W h1 h2 => (rcost_any ws ls p q c d W h1 h2 hl hm).mono fun e w' ⟨h1, h2⟩ => ⟨h1, by rw [h2]; exact Below.refl _ _⟩
  have CE0 : ∀ W, Rd W q (zs ls) → Calls Try.prog 12 #[.slice q ls.length d, .int .i64 lim] W fun e w' => e = .returned (.tuple #[.int .i64 (roomR ls lim).1, .int .i64 (roomR ls lim).2]) ∧ Below W.heap.size W w' := fun W h2 => proom_any ls lim q d W h2 hm hlim
  have CF0 : ∀ W, Rd W q (zs ls) → Calls Try.prog 13 #[.slice q ls.length d, .int .i64 lim] W fun e w' => e = .returned (.tuple #[.int .i64 (roomR ls lim).1, .int .i64 (roomR ls lim).2]) ∧ Below W.heap.size W w' := fun W h2 => (rroom_any ls lim q d W h2 hm hlim).mono fun e w' ⟨h1, h2⟩ => ⟨h1, by rw [h2]; exact Below.refl _ _⟩
  have CS := Lib.hid (fun W (p c q d) (h1 : Rd W p (zs (up L))) (h2 : Rd W q (zs (up L))) => by
    have := same_at (w := W) (p := p) (q := q) (c := c) (d := d) hk.symm hk.symm h1 h2 (by omega) (by omega)
    rw [decide_eq_true rfl] at this
    exact this)
  generalize costR ws ls = o1 at CC0 CD0
  generalize roomR ls lim = o2 at CE0 CF0
  obtain ⟨x1, y1⟩ := o1
  obtain ⟨x2, y2⟩ := o2
  obtain ⟨n, hn⟩ : ∃ n, n = ws.length := ⟨_, rfl⟩
  obtain ⟨m, hm2⟩ : ∃ m, m = ls.length := ⟨_, rfl⟩
  rw [← hn] at CA0 CB0 CC0 CD0 hmid hl ⊢
  rw [← hm2] at CC0 CD0 CE0 CF0 hm ⊢
  have CA := Lib.hid CA0; have CB := Lib.hid CB0; have CC := Lib.hid CC0; have CD := Lib.hid CD0; have CE := Lib.hid CE0; have CF := Lib.hid CF0
  have P := Lib.hid hp; have Q := Lib.hid hq
  have hor : (decide ((40 : Int) < (n : Int)) = false ∧ decide (40 < n) = false) ∨ (decide ((40 : Int) < (n : Int)) = true ∧ decide (40 < n) = true ∧ decide ((n : Int) ≤ 512) = false ∧ decide (n ≤ 512) = false) := by
    by_cases h : 40 < n
    · exact .inr ⟨decide_eq_true (by omega), decide_eq_true h, decide_eq_false (by omega), decide_eq_false (by omega)⟩
    · exact .inl ⟨decide_eq_false (by omega), decide_eq_false h⟩
  clear CA0 CB0 CC0 CD0 CE0 CF0 hp hq hl hm hlim hmid he hk hn hm2 h5
  rcases hor with ⟨t1, t2⟩ | ⟨t1, t2, t3, t4⟩
  all_goals
    have B : Hid (Below w.heap.size w w) := Lib.hid (Below.refl _ _)
    go_enter Try.func3, Try.ntmps3
    go_wp2_with fail
    refine (CA.out _ P.out).mono ?_
    rintro e w0 ⟨q1, c1, rfl, hc1, r1, b⟩
    replace P := Lib.hid (P.out.below b)
    replace Q := Lib.hid (Q.out.below b)
    replace B := Lib.hid (B.out.trans (b.mono B.out.size))
    have R1 := Lib.hid r1
    clear b r1
    go_wp2_with fail
    refine (CB.out _ P.out).mono ?_
    rintro e w1 ⟨q2, c2, rfl, hc2, r2, b⟩
    replace P := Lib.hid (P.out.below b)
    replace Q := Lib.hid (Q.out.below b)
    replace R1 := Lib.hid (R1.out.below b)
    replace B := Lib.hid (B.out.trans (b.mono B.out.size))
    have R2 := Lib.hid r2
    clear b r2
    go_wp2_with fail
    refine (CC.out _ P.out Q.out).mono ?_
    rintro e w2 ⟨rfl, b⟩
    replace P := Lib.hid (P.out.below b)
    replace Q := Lib.hid (Q.out.below b)
    replace R1 := Lib.hid (R1.out.below b)
    replace R2 := Lib.hid (R2.out.below b)
    replace B := Lib.hid (B.out.trans (b.mono B.out.size))
    clear b
    go_wp2_with fail
    refine (CD.out _ P.out Q.out).mono ?_
    rintro e w3 ⟨rfl, b⟩
    replace P := Lib.hid (P.out.below b)
    replace Q := Lib.hid (Q.out.below b)
    replace R1 := Lib.hid (R1.out.below b)
    replace R2 := Lib.hid (R2.out.below b)
    replace B := Lib.hid (B.out.trans (b.mono B.out.size))
    clear b
    go_wp2_with fail
    refine (CE.out _ Q.out).mono ?_
    rintro e w4 ⟨rfl, b⟩
    replace P := Lib.hid (P.out.below b)
    replace Q := Lib.hid (Q.out.below b)
    replace R1 := Lib.hid (R1.out.below b)
    replace R2 := Lib.hid (R2.out.below b)
    replace B := Lib.hid (B.out.trans (b.mono B.out.size))
    clear b
    go_wp2_with fail
    refine (CF.out _ Q.out).mono ?_
    rintro e w5 ⟨rfl, b⟩
    replace P := Lib.hid (P.out.below b)
    replace Q := Lib.hid (Q.out.below b)
    replace R1 := Lib.hid (R1.out.below b)
    replace R2 := Lib.hid (R2.out.below b)
    replace B := Lib.hid (B.out.trans (b.mono B.out.size))
    clear b
    go_wp2_with fail
    refine (CL.out _).mono ?_
    rintro e w6 ⟨rfl, b⟩
    replace P := Lib.hid (P.out.below b)
    replace Q := Lib.hid (Q.out.below b)
    replace R1 := Lib.hid (R1.out.below b)
    replace R2 := Lib.hid (R2.out.below b)
    replace B := Lib.hid (B.out.trans (b.mono B.out.size))
    clear b
    go_wp2_with fail
    refine (CS.out _ _ _ _ _ R1.out R2.out).mono ?_
    rintro e w7 ⟨rfl, b⟩
    replace P := Lib.hid (P.out.below b)
    replace Q := Lib.hid (Q.out.below b)
    replace R1 := Lib.hid (R1.out.below b)
    replace R2 := Lib.hid (R2.out.below b)
    replace B := Lib.hid (B.out.trans (b.mono B.out.size))
    clear b
    go_wp2_with fail
    go_ret
    exact ⟨rfl, B.out⟩
end Go.Proofs.Ytbegngilbngnoaa.Pk
