/- The law PackOrder. -/
import Derived.Test.YtbegngilbngnoaaPkLawE
namespace Go.Proofs.Ytbegngilbngnoaa.Pk
open Go.RowKit Go.Lib Rw Ls Od _root_.Go.Proofs.Ytbegngilbngnoaa.Nm

set_option maxHeartbeats 4000000 in
set_option maxRecDepth 100000 in
theorem order_law (ws : List Nat) (lim : Int) (p : Option Addr) (c : Nat) (w : World) (hp : Rd w p (nums ws)) (hl : ws.length ≤ 17592186044416) :
    Calls Try.prog 6 #[.slice p ws.length c, .int .i64 lim] w fun e w' => e = .returned (.bool true) ∧ Below w.heap.size w w' := by
  have CL := Lib.hid (fun W => lives_any W)
  have P := Lib.hid hp
  rcases lenR_cases ws lim with ⟨r, he, hr⟩ | ⟨m, rfl, he, ho, hm1, hm2, hk⟩
  · have CA0 : ∀ W, Rd W p (nums ws) → Calls Try.prog 8 #[.slice p ws.length c, .int .i64 lim] W (IEn W 0 [] r) := fun W h => ien_of he rfl (plengths_any ws lim p c W h hl)
    have CA := Lib.hid CA0
    generalize ws.length = wn at CA ⊢
    clear CA0 hp hl he
    rcases hr with rfl | rfl
    all_goals
      have B : Hid (Below w.heap.size w w) := Lib.hid (Below.refl _ _)
      go_enter Try.func6, Try.ntmps6
      go_wp2_with fail
      refine (CL.out _).mono ?_
      rintro e w0 ⟨rfl, b⟩
      replace P := Lib.hid (P.out.below b)
      replace B := Lib.hid (B.out.trans (b.mono B.out.size))
      clear b
      go_wp2_with fail
      refine (CA.out _ P.out).mono ?_
      rintro e w1 ⟨q1, c1, rfl, hc1, r1, b⟩
      replace P := Lib.hid (P.out.below b)
      replace B := Lib.hid (B.out.trans (b.mono B.out.size))
      have R1 := Lib.hid r1
      clear b r1
      go_wp2_with fail
      go_ret
      exact ⟨rfl, B.out⟩
  · obtain ⟨L, hL⟩ : ∃ L, L = lens ws m := ⟨_, rfl⟩
    obtain ⟨M, hM⟩ : ∃ M, M = lens ws (m + 1) := ⟨_, rfl⟩
    obtain ⟨a, ha⟩ : ∃ a, a = cost ws (lens ws m) := ⟨_, rfl⟩
    obtain ⟨b, hb⟩ : ∃ b, b = cost ws (lens ws (m + 1)) := ⟨_, rfl⟩
    have hba : b ≤ a := by rw [ha, hb]; exact lens_wider hm1 hk
    have e1 : costR ws (up L) = (a, 0) := by rw [hL, ha]; exact lens_cost ho hm1 hm2 hk
    have hk2 : (sy ws).length ≤ 2 ^ (m + 1) := by rw [Nat.pow_succ]; omega
    have e2 : m < 15 → costR ws (up M) = (b, 0) := fun h => by rw [hM, hb]; exact lens_cost ho (by omega) (by omega) hk2
    have he2 : m < 15 → lenR ws ((m + 1 : Nat) : Int) = (M, 0) := fun h => by
      unfold lenR
      rw [if_pos (by unfold okL; simp only [Bool.and_eq_true, decide_eq_true_eq]; exact ⟨⟨ho, by omega⟩, by omega⟩), Int.toNat_natCast, if_neg (by omega), hM]
    rw [← hL] at he
    obtain ⟨n, hn⟩ : ∃ n, n = ws.length := ⟨_, rfl⟩
    have hLn : L.length = n := by rw [hL, lens_length, hn]
    have hMn : M.length = n := by rw [hM, lens_length, hn]
    have h512 : n ≤ 512 := by rw [hn]; exact okW_len ho
    have CA0 : ∀ W, Rd W p (nums ws) → Calls Try.prog 8 #[.slice p n c, .int .i64 m] W (IEn W n L 0) := fun W h => by
      have := ien_of he hLn (plengths_any ws m p c W h hl)
      rw [← hn] at this; exact this
    have CC0 : ∀ W q d, Rd W p (nums ws) → Rd W q (zs (up L)) → Calls Try.prog 10 #[.slice p n c, .slice q n d] W fun e w' => e = .returned (.tuple #[.int .u64 (a : Nat), .int .i64 0]) ∧ Below W.heap.size W w' := fun W q d h1 h2 => by
      have hu : (up L).length = n := by rw [up_length, hLn]
      have := pcost_any ws (up L) p q c d W h1 h2 hl (by omega)
      rw [e1, hu, ← hn] at this; exact this
    have HE : Hid ((decide ((15 : Int) ≤ (m : Int)) = true ∧ decide (15 ≤ m) = true) ∨ ∃ m1 : Nat, decide ((15 : Int) ≤ (m : Int)) = false ∧ decide (15 ≤ m) = false ∧ IntKind.i64.wrap ((m : Int) + 1) = (m1 : Int) ∧
        (∀ W, Rd W p (nums ws) → Calls Try.prog 8 #[.slice p n c, .int .i64 m1] W (IEn W n M 0)) ∧
        (∀ W q d, Rd W p (nums ws) → Rd W q (zs (up M)) → Calls Try.prog 10 #[.slice p n c, .slice q n d] W fun e w' => e = .returned (.tuple #[.int .u64 (b : Nat), .int .i64 0]) ∧ Below W.heap.size W w')) := Lib.hid (by
      rcases Nat.lt_or_ge m 15 with h | h
      · refine .inr ⟨m + 1, decide_eq_false (by omega), decide_eq_false (by omega), IntWalk.i64_in _ (by omega), fun W h1 => ?_, fun W q d h1 h2 => ?_⟩
        · have := ien_of (he2 h) hMn (plengths_any ws _ p c W h1 hl)
          rw [← hn] at this; exact this
        · have hu : (up M).length = n := by rw [up_length, hMn]
          have := pcost_any ws (up M) p q c d W h1 h2 hl (by omega)
          rw [e2 h, hu, ← hn] at this; exact this
      · exact .inl ⟨decide_eq_true (by omega), decide_eq_true h⟩)
    have HN := Lib.hid hn
    have HLN := Lib.hid hLn
    have HU := Lib.hid (fun i k (hi : i < n) (hj : k < n) (h0 : 0 < ws.getD k 0) (h1 : ws.getD k 0 < ws.getD i 0) => (show L.getD i 0 ≤ L.getD k 0 by rw [hL]; exact lens_order hm1 hk (by rw [← hn]; exact hi) (by rw [← hn]; exact hj) h0 h1))
    have v1 : decide ((b : Int) ≤ (a : Int)) = true := decide_eq_true (by omega)
    have v2 : decide (b ≤ a) = true := decide_eq_true hba
    rw [← hn] at hl ⊢
    have CA := Lib.hid CA0; have CC := Lib.hid CC0
    clear CA0 CC0 hp he he2 hn hLn hMn hL hM ha hb hba e1 e2 ho hm1 hm2 hk hk2
    have d1 : ((n : Int) == (n : Int)) = true := by rw [beq_iff_eq]
    have B : Hid (Below w.heap.size w w) := Lib.hid (Below.refl _ _)
    go_enter Try.func6, Try.ntmps6
    go_wp2_with fail
    refine (CL.out _).mono ?_
    rintro e w0 ⟨rfl, b⟩
    replace P := Lib.hid (P.out.below b)
    replace B := Lib.hid (B.out.trans (b.mono B.out.size))
    clear b
    go_wp2_with fail
    refine (CA.out _ P.out).mono ?_
    rintro e w1 ⟨q1, c1, rfl, hc1, r1, b⟩
    replace P := Lib.hid (P.out.below b)
    replace B := Lib.hid (B.out.trans (b.mono B.out.size))
    have R1 := Lib.hid r1
    clear b r1
    go_wp2_with fail
    obtain ⟨W1, hW1⟩ : ∃ W1, W1 = w1 := ⟨_, rfl⟩
    rw [← hW1] at P R1 B ⊢
    clear hW1
    go_loopw [36] (fun i wr => ∃ k z : Nat, k ≤ n ∧ i = .int .i64 k ∧ wr = W1.drewN z) (fun i _ => n - (intOf i).toNat)
    case atStart => exact ⟨0, 0, Nat.zero_le _, rfl, rfl⟩
    case round =>
      obtain ⟨i, z0, hi, rfl, hw⟩ := hrel
      have HW0 := Lib.hid hw
      clear hw
      by_cases hlt : i < n
      · have i0 : (0 : Int) ≤ (i : Int) := by omega
        have i1 : (i : Int) < (n : Int) := by omega
        go_wp2_with fail
        go_loopw [41] (fun k wr => ∃ j z : Nat, j ≤ n ∧ k = .int .i64 j ∧ wr = W1.drewN z) (fun k _ => n - (intOf k).toNat)
        case atStart => exact ⟨0, z0, Nat.zero_le _, rfl, HW0.out⟩
        case round =>
          obtain ⟨k, z, hk, rfl, hw⟩ := hrel
          have HW := Lib.hid hw
          have P5 : Hid (Rd wr p (nums ws)) := Lib.hid (by rw [hw]; exact P.out.drewN z)
          have R5 : Hid (Rd wr q1 (zs (up L))) := Lib.hid (by rw [hw]; exact R1.out.drewN z)
          clear hw
          by_cases hjl : k < n
          · obtain ⟨a1, rfl, ck⟩ := rd_num P5.out k (by rw [← HN.out]; exact hjl)
            obtain ⟨a2, hbb, ci⟩ := rd_num P5.out i (by rw [← HN.out]; exact hlt)
            cases hbb
            obtain ⟨a3, rfl, dk⟩ := rd_z R5.out k (by rw [up_length, HLN.out]; exact hjl)
            obtain ⟨a4, hbb, di⟩ := rd_z R5.out i (by rw [up_length, HLN.out]; exact hlt)
            cases hbb
            rw [up_at] at dk di
            have hord := HU.out i k hlt hjl
            obtain ⟨yk, hyk⟩ : ∃ y, y = ws.getD k 0 := ⟨_, rfl⟩
            obtain ⟨yi, hyi⟩ : ∃ y, y = ws.getD i 0 := ⟨_, rfl⟩
            obtain ⟨lk, hlk⟩ : ∃ y, y = L.getD k 0 := ⟨_, rfl⟩
            obtain ⟨li, hli⟩ : ∃ y, y = L.getD i 0 := ⟨_, rfl⟩
            rw [← hyk, ← hyi, ← hlk, ← hli] at hord
            rw [← hyk] at ck
            rw [← hyi] at ci
            rw [← hlk] at dk
            rw [← hli] at di
            have k0 : (0 : Int) ≤ (k : Int) := by omega
            have k1 : (k : Int) < (n : Int) := by omega
            clear hyk hyi hlk hli
            have hall : (decide ((0 : Int) < (yk : Int)) = false ∧ decide (0 < yk) = false) ∨ (decide ((0 : Int) < (yk : Int)) = true ∧ decide (0 < yk) = true ∧ decide ((yk : Int) < (yi : Int)) = false ∧ decide (yk < yi) = false) ∨ (decide ((0 : Int) < (yk : Int)) = true ∧ decide (0 < yk) = true ∧ decide ((yk : Int) < (yi : Int)) = true ∧ decide (yk < yi) = true ∧ decide ((lk : Int) < (li : Int)) = false ∧ decide (lk < li) = false) := by
              by_cases h1 : 0 < yk
              · by_cases h2 : yk < yi
                · have h3 := hord h1 h2
                  exact .inr (.inr ⟨decide_eq_true (by omega), decide_eq_true h1, decide_eq_true (by omega), decide_eq_true h2, decide_eq_false (by omega), decide_eq_false (by omega)⟩)
                · exact .inr (.inl ⟨decide_eq_true (by omega), decide_eq_true h1, decide_eq_false (by omega), decide_eq_false h2⟩)
              · exact .inl ⟨decide_eq_false (by omega), decide_eq_false h1⟩
            clear hord
            rcases hall with ⟨t1, t2⟩ | ⟨t1, t2, t3, t4⟩ | ⟨t1, t2, t3, t4, t5, t6⟩
            all_goals
              go_wp2_with fail
              go_quiet (fail)
              go_wp2_with fail
              go_roundw
              case rel => exact ⟨k + 1, _, by omega, by go_num, by rw [HW.out, World.drewN_drewN]⟩
              case measure => simp [intOf]; omega
          · obtain rfl : k = n := by omega
            have j1 : ¬ (k : Int) < (k : Int) := by omega
            go_wp2_with fail
            go_roundw
            case rel => exact ⟨i + 1, z, by omega, by go_num, HW.out⟩
            case measure => simp [intOf]; omega
      · obtain rfl : i = n := by omega
        have j1 : ¬ (i : Int) < (i : Int) := by omega
        have P5 : Hid (Rd wr p (nums ws)) := Lib.hid (by rw [HW0.out]; exact P.out.drewN z0)
        have R5 : Hid (Rd wr q1 (zs (up L))) := Lib.hid (by rw [HW0.out]; exact R1.out.drewN z0)
        have B5 : Hid (Below w.heap.size w wr) := Lib.hid (by rw [HW0.out]; exact below_drewN B.out z0)
        clear HW0 P R1 B
        have P := P5; have R1 := R5; have B := B5
        clear P5 R5 B5
        have h9 := HE.out
        clear HE HU
        rcases h9 with ⟨g1, g2⟩ | ⟨m1, g1, g2, g3, ca2, cc2⟩
        · go_wp2_with fail
          go_ret
          exact ⟨rfl, B.out⟩
        · have CA2 := Lib.hid ca2; have CC2 := Lib.hid cc2
          clear ca2 cc2
          go_wp2_with fail
          refine (CA2.out _ P.out).mono ?_
          rintro e w2 ⟨q2, c2, rfl, hc2, r2, b⟩
          replace P := Lib.hid (P.out.below b)
          replace R1 := Lib.hid (R1.out.below b)
          replace B := Lib.hid (B.out.trans (b.mono B.out.size))
          have R2 := Lib.hid r2
          clear b r2
          go_wp2_with fail
          refine (CC.out _ _ _ P.out R1.out).mono ?_
          rintro e w3 ⟨rfl, b⟩
          replace P := Lib.hid (P.out.below b)
          replace R1 := Lib.hid (R1.out.below b)
          replace R2 := Lib.hid (R2.out.below b)
          replace B := Lib.hid (B.out.trans (b.mono B.out.size))
          clear b
          go_wp2_with fail
          refine (CC2.out _ _ _ P.out R2.out).mono ?_
          rintro e w4 ⟨rfl, b⟩
          replace P := Lib.hid (P.out.below b)
          replace R1 := Lib.hid (R1.out.below b)
          replace R2 := Lib.hid (R2.out.below b)
          replace B := Lib.hid (B.out.trans (b.mono B.out.size))
          clear b
          go_wp2_with fail
          go_ret
          exact ⟨rfl, B.out⟩
end Go.Proofs.Ytbegngilbngnoaa.Pk
