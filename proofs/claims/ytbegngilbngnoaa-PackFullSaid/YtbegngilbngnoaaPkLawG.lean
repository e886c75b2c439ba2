/- The law PackFull. -/
import Derived.Test.YtbegngilbngnoaaPkLawE
namespace Go.Proofs.Ytbegngilbngnoaa.Pk
open Go.RowKit Go.Lib Rw Ls Od _root_.Go.Proofs.Ytbegngilbngnoaa.Nm

/-- how many leaves there are so far -/
def cn (ws : List Nat) (k : Nat) : Nat := ((List.range k).filter fun i => decide (0 < ws.getD i 0)).length
theorem cn_succ (ws : List Nat) (k : Nat) : cn ws (k + 1) = cn ws k + if 0 < ws.getD k 0 then 1 else 0 := by
  unfold cn
  rw [sy_succ]
  split <;> simp
set_option maxHeartbeats 4000000 in
set_option maxRecDepth 100000 in
theorem full_law (ws : List Nat) (lim : Int) (p : Option Addr) (c : Nat) (w : World) (hp : Rd w p (nums ws)) (hl : ws.length ≤ 17592186044416) (hlim : -9223372036854775808 ≤ lim ∧ lim ≤ 9223372036854775807) :
    Calls Try.prog 4 #[.slice p ws.length c, .int .i64 lim] w fun e w' => e = .returned (.bool true) ∧ Below w.heap.size w w' := by
  have CL := Lib.hid (fun W => lives_any W)
  have P := Lib.hid hp
  rcases lenR_cases ws lim with ⟨r, he, hr⟩ | ⟨m, rfl, he, ho, hm1, hm2, hk⟩
  · have CA0 : ∀ W, Rd W p (nums ws) → Calls Try.prog 8 #[.slice p ws.length c, .int .i64 lim] W (IEn W 0 [] r) := fun W h => ien_of he rfl (plengths_any ws lim p c W h hl)
    have CA := Lib.hid CA0
    generalize ws.length = wn at CA ⊢
    clear CA0 hp hl hlim he
    rcases hr with rfl | rfl
    all_goals
      have B : Hid (Below w.heap.size w w) := Lib.hid (Below.refl _ _)
      go_enter Try.func4, Try.ntmps4
      go_wp2_with fail
      refine (CL.out _).mono ?_
      rintro e w0 ⟨rfl, b⟩
      replace P := Lib.hid (P.out.below b)
      replace B := Lib.hid (B.out.trans (b.mono B.out.size))
      clear b
      go_wp2_with fail
      refine (CA.out _ P.out).mono ?_
      rintro e w1 ⟨q1, c1, rfl, hc1, r1, b⟩
      replace P := Lib.hid (P.out.below b)
      replace B := Lib.hid (B.out.trans (b.mono B.out.size))
      have R1 := Lib.hid r1
      clear b r1
      go_wp2_with fail
      go_ret
      exact ⟨rfl, B.out⟩
  · obtain ⟨L, hL⟩ : ∃ L, L = lens ws m := ⟨_, rfl⟩
    obtain ⟨x, hx, hx2⟩ := lens_left ho hm1 hm2 hk
    rw [← hL] at he hx
    obtain ⟨n, hn⟩ : ∃ n, n = ws.length := ⟨_, rfl⟩
    have hLn : L.length = n := by rw [hL, lens_length, hn]
    have h512 : n ≤ 512 := by rw [hn]; exact okW_len ho
    have CA0 : ∀ W, Rd W p (nums ws) → Calls Try.prog 8 #[.slice p n c, .int .i64 m] W (IEn W n L 0) := fun W h => by
      have := ien_of he hLn (plengths_any ws m p c W h hl)
      rw [← hn] at this; exact this
    have CB0 : ∀ W q d, Rd W q (zs (up L)) → Calls Try.prog 12 #[.slice q n d, .int .i64 m] W fun e w' => e = .returned (.tuple #[.int .i64 x, .int .i64 0]) ∧ Below W.heap.size W w' := fun W q d h2 => by
      have hu : (up L).length = n := by rw [up_length, hLn]
      have := proom_any (up L) m q d W h2 (by omega) hlim
      rw [hx, hu] at this; exact this
    have HN := Lib.hid hn
    have HLN := Lib.hid hLn
    have HU := Lib.hid (fun i (h : i < n) => (show 0 < ws.getD i 0 ↔ 0 < L.getD i 0 by rw [hL]; exact (lens_one hm1 hk (by rw [← hn]; exact h)).2))
    have HE : Hid ((decide (((sy ws).length : Int) < 2) = true ∧ decide ((sy ws).length < 2) = true) ∨ (decide (((sy ws).length : Int) < 2) = false ∧ decide ((sy ws).length < 2) = false ∧ x = 0)) := Lib.hid (by
      rcases Nat.lt_or_ge (sy ws).length 2 with h | h
      · exact .inl ⟨decide_eq_true (by omega), decide_eq_true h⟩
      · exact .inr ⟨decide_eq_false (by omega), decide_eq_false (by omega), hx2 h⟩)
    have HM : Hid (-9223372036854775808 ≤ (m : Int) ∧ (m : Int) ≤ 9223372036854775807) := Lib.hid hlim
    rw [← hn] at hl ⊢
    have CA := Lib.hid CA0; have CB := Lib.hid CB0
    clear CA0 CB0 hp hlim he hx hx2 hn hLn hL ho hm1 hm2 hk
    have d1 : ((n : Int) == (n : Int)) = true := by rw [beq_iff_eq]
    have B : Hid (Below w.heap.size w w) := Lib.hid (Below.refl _ _)
    go_enter Try.func4, Try.ntmps4
    go_wp2_with fail
    refine (CL.out _).mono ?_
    rintro e w0 ⟨rfl, b⟩
    replace P := Lib.hid (P.out.below b)
    replace B := Lib.hid (B.out.trans (b.mono B.out.size))
    clear b
    go_wp2_with fail
    refine (CA.out _ P.out).mono ?_
    rintro e w1 ⟨q1, c1, rfl, hc1, r1, b⟩
    replace P := Lib.hid (P.out.below b)
    replace B := Lib.hid (B.out.trans (b.mono B.out.size))
    have R1 := Lib.hid r1
    clear b r1
    go_wp2_with fail
    refine (CB.out _ _ _ R1.out).mono ?_
    rintro e w2 ⟨rfl, b⟩
    replace P := Lib.hid (P.out.below b)
    replace R1 := Lib.hid (R1.out.below b)
    replace B := Lib.hid (B.out.trans (b.mono B.out.size))
    clear b
    go_wp2_with fail
    obtain ⟨W1, hW1⟩ : ∃ W1, W1 = w2 := ⟨_, rfl⟩
    rw [← hW1] at P R1 B ⊢
    clear hW1
    go_loopw [9, 38] (fun v i wr => ∃ (k z : Nat), k ≤ n ∧ z ≤ k ∧ Hid (z = cn ws k) ∧ i = .int .i64 k ∧ v = .int .i64 z ∧ wr = W1) (fun _ i _ => n - (intOf i).toNat)
    case atStart => exact ⟨0, 0, Nat.zero_le _, Nat.le_refl _, Lib.hid rfl, rfl, rfl, rfl⟩
    case round =>
      obtain ⟨k, z, hk, hz, HZ, rfl, rfl, rfl⟩ := hrel
      have HS := Lib.hid (cn_succ ws k)
      rw [← HZ.out] at HS
      by_cases hlt : k < n
      · obtain ⟨a, rfl, cy⟩ := rd_num P.out k (by rw [← HN.out]; exact hlt)
        obtain ⟨a2, rfl, cl⟩ := rd_z R1.out k (by rw [up_length, HLN.out]; exact hlt)
        rw [up_at] at cl
        have hiff := HU.out k hlt
        obtain ⟨y, hy⟩ : ∃ y, y = ws.getD k 0 := ⟨_, rfl⟩
        obtain ⟨l, hl2⟩ : ∃ l, l = L.getD k 0 := ⟨_, rfl⟩
        rw [← hy] at cy HS hiff
        rw [← hl2] at cl hiff
        have k0 : (0 : Int) ≤ (k : Int) := by omega
        have k1 : (k : Int) < (n : Int) := by omega
        clear hy hl2
        by_cases hyb : 0 < y
        · have hlb : 0 < l := hiff.1 hyb
          have e1 : decide ((0 : Int) < (y : Int)) = true := decide_eq_true (by omega)
          have e2 : decide (0 < y) = true := decide_eq_true hyb
          have e3 : decide ((0 : Int) < (l : Int)) = true := decide_eq_true (by omega)
          have e4 : decide (0 < l) = true := decide_eq_true hlb
          have HZ2 : Hid (z + 1 = cn ws (k + 1)) := Lib.hid (by rw [HS.out, if_pos hyb])
          clear hyb hlb hiff
          go_wp2_with fail
          go_roundw
          case rel => exact ⟨k + 1, z + 1, by omega, by omega, HZ2, by go_num, by go_num, by trivial⟩
          case measure => simp [intOf]; omega
        · have hlb : ¬ 0 < l := fun h => hyb (hiff.2 h)
          have e1 : decide ((0 : Int) < (y : Int)) = false := decide_eq_false (by omega)
          have e2 : decide (0 < y) = false := decide_eq_false hyb
          have e3 : decide ((0 : Int) < (l : Int)) = false := decide_eq_false (by omega)
          have e4 : decide (0 < l) = false := decide_eq_false hlb
          have HZ2 : Hid (z = cn ws (k + 1)) := Lib.hid (by rw [HS.out, if_neg hyb]; rfl)
          clear hyb hlb hiff
          go_wp2_with fail
          go_roundw
          case rel => exact ⟨k + 1, z, by omega, by omega, HZ2, by go_num, rfl, by trivial⟩
          case measure => simp [intOf]; omega
      · obtain rfl : k = n := by omega
        have HF : (sy ws).length = z := by rw [HZ.out, sy, ← HN.out]; rfl
        have h1 := HE.out
        rw [HF] at h1
        have k1 : ¬ (k : Int) < (k : Int) := by omega
        clear HF HS HZ HE
        rcases h1 with ⟨t1, t2⟩ | ⟨t1, t2, rfl⟩
        all_goals
          go_wp2_with fail
          go_ret
          exact ⟨rfl, B.out⟩
end Go.Proofs.Ytbegngilbngnoaa.Pk
