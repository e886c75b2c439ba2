/- The law PackLeast. -/
import Derived.Test.YtbegngilbngnoaaPkLives
import Derived.Test.YtbegngilbngnoaaPkN
namespace Go.Proofs.Ytbegngilbngnoaa.Pk
open Go.RowKit Go.Lib Rw Ls Od _root_.Go.Proofs.Ytbegngilbngnoaa.Nm

theorem lenR_cases (ws : List Nat) (lim : Int) : (∃ r, lenR ws lim = ([], r) ∧ (r = 1 ∨ r = 8)) ∨ (∃ m : Nat, lim = m ∧ lenR ws lim = (lens ws m, 0) ∧ okW ws = true ∧ 1 ≤ m ∧ m ≤ 15 ∧ (sy ws).length ≤ 2 ^ m) := by
  unfold lenR
  split
  · rename_i h
    unfold okL at h
    simp only [Bool.and_eq_true, decide_eq_true_eq] at h
    split
    · exact .inl ⟨8, rfl, .inr rfl⟩
    · rename_i h2
      exact .inr ⟨lim.toNat, by omega, rfl, h.1.1, by omega, by omega, by omega⟩
  · exact .inl ⟨1, rfl, .inl rfl⟩
theorem roomR_cases (ls : List Int) (lim : Int) : (roomR ls lim).2 = 0 ∨ (roomR ls lim).2 = 7 ∨ (roomR ls lim).2 = 1 := by
  unfold roomR
  split
  · split
    · exact .inl rfl
    · exact .inr (.inl rfl)
  · exact .inr (.inr rfl)
theorem costR_cases (ws : List Nat) (ls : List Int) : (costR ws ls).2 = 0 ∨ (costR ws ls).2 = 7 ∨ (costR ws ls).2 = 5 ∨ (costR ws ls).2 = 1 := by
  unfold costR
  split
  · split
    · split
      · exact .inl rfl
      · exact .inr (.inl rfl)
    · exact .inr (.inr (.inl rfl))
  · exact .inr (.inr (.inr rfl))
/-- a law's cases: the errors, and what costs less -/
theorem least_cases (ws : List Nat) (lim : Int) (ls : List Int) {L : List Nat} {r : Int} (he : lenR ws lim = (L, r)) {a : Nat} {y : Int} (h1 : costR ws (up L) = (a, y)) {b : Nat} {z : Int} (h2 : costR ws ls = (b, z)) {n : Int} {x : Int} (h3 : roomR ls lim = (n, x)) :
    (r = 1 ∨ r = 8) ∨ (r = 0 ∧ y = 0 ∧ ((x = 7 ∨ x = 1) ∨ (x = 0 ∧ ((z = 7 ∨ z = 5 ∨ z = 1) ∨ (z = 0 ∧ (n < 0 ∨ (0 ≤ n ∧ a ≤ b))))))) := by
  have hx := roomR_cases ls lim
  have hz := costR_cases ws ls
  rw [h3] at hx
  rw [h2] at hz
  rcases lenR_cases ws lim with ⟨r', h, hr⟩ | ⟨m, rfl, h, ho, hm1, hm2, hk⟩
  · rw [h] at he
    obtain rfl : r' = r := congrArg Prod.snd he
    exact .inl hr
  · rw [h] at he
    obtain rfl : lens ws m = L := congrArg Prod.fst he
    obtain rfl : (0 : Int) = r := congrArg Prod.snd he
    rw [lens_cost ho hm1 hm2 hk] at h1
    obtain rfl : cost ws (lens ws m) = a := congrArg Prod.fst h1
    obtain rfl : (0 : Int) = y := congrArg Prod.snd h1
    refine .inr ⟨rfl, rfl, ?_⟩
    rcases hx with hx | hx | hx
    · refine .inr ⟨hx, ?_⟩
      rcases hz with hz | hz | hz | hz
      · refine .inr ⟨hz, ?_⟩
        rcases Int.lt_or_le n 0 with hn | hn
        · exact .inl hn
        · refine .inr ⟨hn, ?_⟩
          simp only at hx hz
          subst hx; subst hz
          exact lens_least hm1 hk h3 hn h2
      · exact .inl (.inl hz)
      · exact .inl (.inr (.inl hz))
      · exact .inl (.inr (.inr hz))
    · exact .inl (.inl hx)
    · exact .inl (.inr hx)
set_option maxHeartbeats 4000000 in
set_option maxRecDepth 100000 in
theorem least_law (ws : List Nat) (lim : Int) (ls : List Int) (p q : Option Addr) (c d : Nat) (w : World) (hp : Rd w p (nums ws)) (hq : Rd w q (zs ls)) (hl : ws.length ≤ 17592186044416) (hm : ls.length ≤ 17592186044416) (hlim : -9223372036854775808 ≤ lim ∧ lim ≤ 9223372036854775807) :
    Calls Try.prog 5 #[.slice p ws.length c, .int .i64 lim, .slice q ls.length d] w fun e w' => e = .returned (.bool true) ∧ Below w.heap.size w w' := by
  have CL := Lib.hid (fun W => lives_any W)
  have h5 : (lenR ws lim).1.length ≤ 512 := by
    rcases lenR_cases ws lim with ⟨r, h, _⟩ | ⟨m, _, h, ho, _⟩
    · rw [h]; simp
    · rw [h]; simp only [lens_length]; exact okW_len ho
  obtain ⟨L, r, he⟩ : ∃ L r, lenR ws lim = (L, r) := ⟨_, _, rfl⟩
  rw [he] at h5
  obtain ⟨k, hk⟩ : ∃ k, k = L.length := ⟨_, rfl⟩
  replace h5 : k ≤ 512 := by rw [hk]; exact h5
  obtain ⟨a, y, e1⟩ : ∃ a y, costR ws (up L) = (a, y) := ⟨_, _, rfl⟩
  obtain ⟨b, z, e2⟩ : ∃ b z, costR ws ls = (b, z) := ⟨_, _, rfl⟩
  obtain ⟨n, x, e3⟩ : ∃ n x, roomR ls lim = (n, x) := ⟨_, _, rfl⟩
  have hcases := least_cases ws lim ls he e1 e2 e3
  have CA0 : ∀ W, Rd W p (nums ws) → Calls Try.prog 8 #[.slice p ws.length c, .int .i64 lim] W (IEn W k L r) := fun W h => ien_of he hk.symm (plengths_any ws lim p c W h hl)
  have CB0 : ∀ W, Rd W q (zs ls) → Calls Try.prog 12 #[.slice q ls.length d, .int .i64 lim] W fun e w' => e = .returned (.tuple #[.int .i64 n, .int .i64 x]) ∧ Below W.heap.size W w' := fun W h2 => by
    have := proom_any ls lim q d W h2 hm hlim
    rw [e3] at this; exact this
  have CC0 : ∀ W q d, Rd W p (nums ws) → Rd W q (zs (up L)) → Calls Try.prog 10 #[.slice p ws.length c, .slice q k d] W fun e w' => e = .returned (.tuple #[.int .u64 (a : Nat), .int .i64 y]) ∧ Below W.heap.size W w' := fun W q d h1 h2 => by
    have hu : (up L).length = k := by rw [up_length, hk]
    have := pcost_any ws (up L) p q c d W h1 h2 hl (by omega)
    rw [e1, hu] at this; exact this
  have CD0 : ∀ W, Rd W p (nums ws) → Rd W q (zs ls) → Calls Try.prog 10 #[.slice p ws.length c, .slice q ls.length d] W fun e w' => e = .returned (.tuple #[.int .u64 (b : Nat), .int .i64 z]) ∧ Below W.heap.size W w' := fun W h1 h2 => by
    have := pcost_any ws ls p q c d W h1 h2 hl hm
    rw [e2] at this; exact this
  obtain ⟨wn, hwn⟩ : ∃ n, n = ws.length := ⟨_, rfl⟩
  obtain ⟨m, hm2⟩ : ∃ m, m = ls.length := ⟨_, rfl⟩
  rw [← hwn] at CA0 CC0 CD0 ⊢
  rw [← hm2] at CB0 CD0 ⊢
  have P := Lib.hid hp; have Q := Lib.hid hq
  clear hp hq hl hm hlim he hk hwn hm2 h5 e1 e2 e3
  have h6 : (∃ t : Unit, r = 1) ∨ (∃ t : Unit, r = 8) ∨ (∃ t : Unit, r = 0 ∧ y = 0 ∧ x = 7) ∨ (∃ t : Unit, r = 0 ∧ y = 0 ∧ x = 1) ∨ (∃ t : Unit, r = 0 ∧ y = 0 ∧ x = 0 ∧ z = 7) ∨ (∃ t : Unit, r = 0 ∧ y = 0 ∧ x = 0 ∧ z = 5) ∨ (∃ t : Unit, r = 0 ∧ y = 0 ∧ x = 0 ∧ z = 1) ∨ (r = 0 ∧ y = 0 ∧ x = 0 ∧ z = 0 ∧ decide (n < 0) = true) ∨ (r = 0 ∧ y = 0 ∧ x = 0 ∧ z = 0 ∧ decide (n < 0) = false ∧ decide ((a : Int) ≤ (b : Int)) = true ∧ decide (a ≤ b) = true) := by
    rcases hcases with (h | h) | ⟨h0, h1, (h | h) | ⟨h2, (h | h | h) | ⟨h3, h | ⟨h, h'⟩⟩⟩⟩
    · exact .inl ⟨(), h⟩
    · exact .inr (.inl ⟨(), h⟩)
    · exact .inr (.inr (.inl ⟨(), h0, h1, h⟩))
    · exact .inr (.inr (.inr (.inl ⟨(), h0, h1, h⟩)))
    · exact .inr (.inr (.inr (.inr (.inl ⟨(), h0, h1, h2, h⟩))))
    · exact .inr (.inr (.inr (.inr (.inr (.inl ⟨(), h0, h1, h2, h⟩)))))
    · exact .inr (.inr (.inr (.inr (.inr (.inr (.inl ⟨(), h0, h1, h2, h⟩))))))
    · exact .inr (.inr (.inr (.inr (.inr (.inr (.inr (.inl ⟨h0, h1, h2, h3, decide_eq_true h⟩)))))))
    · exact .inr (.inr (.inr (.inr (.inr (.inr (.inr (.inr ⟨h0, h1, h2, h3, decide_eq_false (by omega), decide_eq_true (by omega), decide_eq_true h'⟩)))))))
  clear hcases
  rcases h6 with ⟨_, rfl⟩ | ⟨_, rfl⟩ | ⟨_, rfl, rfl, rfl⟩ | ⟨_, rfl, rfl, rfl⟩ | ⟨_, rfl, rfl, rfl, rfl⟩ | ⟨_, rfl, rfl, rfl, rfl⟩ | ⟨_, rfl, rfl, rfl, rfl⟩ | ⟨rfl, rfl, rfl, rfl, t1⟩ | ⟨rfl, rfl, rfl, rfl, t1, t2, t3⟩
  all_goals
    have CA := Lib.hid CA0; have CB := Lib.hid CB0; have CC := Lib.hid CC0; have CD := Lib.hid CD0
    clear CA0 CB0 CC0 CD0
    have B : Hid (Below w.heap.size w w) := Lib.hid (Below.refl _ _)
    go_enter Try.func5, Try.ntmps5
    go_wp2_with fail
    refine (CL.out _).mono ?_
    rintro e w0 ⟨rfl, b⟩
    replace P := Lib.hid (P.out.below b)
    replace Q := Lib.hid (Q.out.below b)
    replace B := Lib.hid (B.out.trans (b.mono B.out.size))
    clear b
    go_wp2_with fail
    refine (CA.out _ P.out).mono ?_
    rintro e w1 ⟨q1, c1, rfl, hc1, r1, b⟩
    replace P := Lib.hid (P.out.below b)
    replace Q := Lib.hid (Q.out.below b)
    replace B := Lib.hid (B.out.trans (b.mono B.out.size))
    have R1 := Lib.hid r1
    clear b r1
    go_wp2_with fail
    refine (CB.out _ Q.out).mono ?_
    rintro e w2 ⟨rfl, b⟩
    replace P := Lib.hid (P.out.below b)
    replace Q := Lib.hid (Q.out.below b)
    replace R1 := Lib.hid (R1.out.below b)
    replace B := Lib.hid (B.out.trans (b.mono B.out.size))
    clear b
    go_wp2_with fail
    refine (CC.out _ _ _ P.out R1.out).mono ?_
    rintro e w3 ⟨rfl, b⟩
    replace P := Lib.hid (P.out.below b)
    replace Q := Lib.hid (Q.out.below b)
    replace R1 := Lib.hid (R1.out.below b)
    replace B := Lib.hid (B.out.trans (b.mono B.out.size))
    clear b
    go_wp2_with fail
    refine (CD.out _ P.out Q.out).mono ?_
    rintro e w4 ⟨rfl, b⟩
    replace P := Lib.hid (P.out.below b)
    replace Q := Lib.hid (Q.out.below b)
    replace R1 := Lib.hid (R1.out.below b)
    replace B := Lib.hid (B.out.trans (b.mono B.out.size))
    clear b
    go_wp2_with fail
    go_ret
    exact ⟨rfl, B.out⟩
end Go.Proofs.Ytbegngilbngnoaa.Pk
