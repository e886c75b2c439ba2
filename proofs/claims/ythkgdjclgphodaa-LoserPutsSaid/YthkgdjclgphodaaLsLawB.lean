/- LoserShort: the law's walk. -/
import Derived.Test.YthkgdjclgphodaaLsLawA
namespace Go.Proofs.Ythkgdjclgphodaa.Ls
open Go.RowKit Rw Nm

theorem path_le : ∀ (k x : Nat), x < 2 ^ k → (path x).length ≤ k
  | 0, x, h => by
    have : x = 0 := by omega
    subst this; simp [path_zero]
  | k + 1, x, h => by
    by_cases hx : 1 ≤ x
    · rw [path_pos hx, List.length_cons]
      have := path_le k (x / 2) (by rw [Nat.pow_succ] at h; omega)
      omega
    · have : x = 0 := by omega
      subst this; simp [path_zero]
theorem path_get : ∀ (j m : Nat), j < (path m).length → (path m).getD j 0 = m / 2 ^ j ∧ 1 ≤ m / 2 ^ j
  | 0, m, h => by
    by_cases hm : 1 ≤ m
    · rw [path_pos hm]; simp; omega
    · have : m = 0 := by omega
      subst this; simp [path_zero] at h
  | j + 1, m, h => by
    by_cases hm : 1 ≤ m
    · rw [path_pos hm] at h ⊢
      have := path_get j (m / 2) (by simpa using h)
      rw [Nat.pow_succ, Nat.mul_comm, ← Nat.div_div_eq_div_mul]
      simpa using this
    · have : m = 0 := by omega
      subst this; simp [path_zero] at h
theorem path_last {m : Nat} (h : 0 < (path m).length) : (path m).getD ((path m).length - 1) 0 = 1 := by
  obtain ⟨e, h1⟩ := path_get ((path m).length - 1) m (by omega)
  rw [e]
  have h2 := path_len m
  have h3 : 2 ^ (path m).length = 2 ^ ((path m).length - 1) * 2 := by rw [← Nat.pow_succ]; congr 1; omega
  rw [h3] at h2
  have h4 : m / 2 ^ ((path m).length - 1) < 2 := by
    rw [Nat.div_lt_iff_lt_mul (Nat.two_pow_pos _), Nat.mul_comm]; exact h2
  omega
theorem path_step {m j : Nat} (h : j + 1 < (path m).length) : (path m).getD (j + 1) 0 = (path m).getD j 0 / 2 := by
  rw [(path_get (j + 1) m h).1, (path_get j m (by omega)).1, Nat.pow_succ, ← Nat.div_div_eq_div_mul]
theorem path_lt {m j n : Nat} (h : j < (path m).length) (hm : m < n) : 1 ≤ (path m).getD j 0 ∧ (path m).getD j 0 < n := by
  obtain ⟨e, h1⟩ := path_get j m h
  rw [e]
  exact ⟨h1, Nat.lt_of_le_of_lt (Nat.div_le_self _ _) hm⟩
theorem path_nil {m : Nat} : (path m).length = 0 ↔ m = 0 := by
  constructor
  · intro h
    rcases Nat.eq_zero_or_pos m with e | e
    · exact e
    · rw [path_pos e] at h; simp at h
  · rintro rfl; simp [path_zero]

theorem path_facts {K : Keys} {T : List Int} {leaf : Int} (h : pathE K T leaf = 0) : (1 ≤ K.length ∧ K.length ≤ 256) ∧ 0 ≤ leaf ∧ leaf < K.length ∧ pathL K T leaf = path ((K.length + leaf.toNat) / 2) := by
  have hc : chk K T = 0 := by
    unfold pathE at h
    by_cases e : chk K T = 0
    · exact e
    · rw [if_neg e] at h; cases h
  have h2 := h
  unfold pathE at h2
  rw [if_pos hc] at h2
  have hk : 0 ≤ leaf ∧ leaf < K.length := by
    by_cases e : 0 ≤ leaf ∧ leaf < K.length
    · exact e
    · rw [if_neg e] at h2; cases h2
  rcases chk_cases K T with ⟨_, hK, _⟩ | h3
  · exact ⟨hK, hk.1, hk.2, if_pos h⟩
  · rw [hc] at h3; cases h3

section
variable {K : Keys} {T : List Int} {p q : Option Addr} {c d : Nat} {w : World}
set_option maxHeartbeats 8000000 in
set_option maxRecDepth 100000 in
theorem short_law (leaf : Int) (h : LsAt w p K q T) :
    Calls Try.prog 7 #[.agg #[.slice p K.length c, .slice q T.length d], .int .i64 leaf] w fun e w' => e = .returned (.bool true) ∧ Below w.heap.size w w' := by
  obtain ⟨W0, hW0⟩ : ∃ W0, W0 = w.alloc (.cells #[.slice p K.length c, .slice q T.length d] 25) := ⟨_, rfl⟩
  have t0 : Below w.heap.size w W0 := by rw [hW0]; exact (Below.refl _ _).alloc (Nat.le_refl _) _
  have bx := Bx.new w #[.slice p K.length c, .slice q T.length d] 25
  rw [← hW0] at bx
  have HP : Hid (∀ W, Below w.heap.size w W → Calls Try.prog 17 #[.agg #[.slice p K.length c, .slice q T.length d], .int .i64 leaf] W fun e w' => PathP W K T leaf e w') := Lib.hid fun W hW => path_any leaf (h.below hW)
  obtain ⟨r, hr⟩ : ∃ r, r = pathE K T leaf := ⟨_, rfl⟩
  obtain ⟨n, hn⟩ : ∃ n, n = K.length := ⟨_, rfl⟩
  obtain ⟨m, hm⟩ : ∃ m, m = T.length := ⟨_, rfl⟩
  have T0 := Lib.hid t0; have BX := Lib.hid bx; have HW0 := Lib.hid hW0
  rw [← hn, ← hm] at HP BX HW0 ⊢
  have HR := Lib.hid hr
  by_cases h0 : r = 0
  case neg =>
    have FI : Hid (pathL K T leaf = []) := Lib.hid (if_neg (by rw [← hr]; exact h0))
    have hb : (r != 0) = true := by rw [bne_iff_ne]; exact h0
    clear h t0 bx hW0 hr hn hm h0
    go_enter Try.func7, Try.ntmps7
    go_wp2_with fail
    rw [← HW0.out]
    refine (lives_any _).mono ?_
    rintro e w1 ⟨rfl, b1⟩
    have bx1 := BX.out.below b1
    have v0 : w1.cell? ⟨w.heap.size, 0, none⟩ = some (.slice p n c) := bx1.cell 0 (by simp)
    have v1 : w1.cell? ⟨w.heap.size, 1, none⟩ = some (.slice q m d) := bx1.cell 1 (by simp)
    have B1 := Lib.hid (T0.out.trans (b1.mono T0.out.size))
    clear b1 bx1
    go_wp2_with fail
    refine (HP.out _ B1.out).mono ?_
    rintro e w2 ⟨q2, c2, rfl, _, b2⟩
    rw [FI.out, ← HR.out]
    have B2 := Lib.hid (B1.out.trans (b2.mono B1.out.size))
    clear b2 v0 v1
    go_wp2_with fail
    go_ret
    exact ⟨rfl, B2.out⟩
  case pos =>
    subst h0
    obtain ⟨hK, hl0, hl1, eL⟩ := path_facts hr.symm
    obtain ⟨i, rfl⟩ : ∃ i : Nat, leaf = (i : Int) := ⟨leaf.toNat, by omega⟩
    rw [show ((i : Int)).toNat = i by omega, ← hn] at eL
    obtain ⟨x, hx⟩ : ∃ x, x = (n + i) / 2 := ⟨_, rfl⟩
    have hin : i < n := by rw [hn]; omega
    rw [← hx] at eL
    obtain ⟨L, hL⟩ : ∃ L, L = path x := ⟨_, rfl⟩
    rw [← hL] at eL
    obtain ⟨l, hl⟩ : ∃ l, l = L.length := ⟨_, rfl⟩
    have hn1 : 1 ≤ n := by omega
    have hn2 : n ≤ 256 := by omega
    have hxn : x < n := by omega
    have G1 : Hid (∀ c, n < 2 ^ (c + 1) → l ≤ c + 1) := Lib.hid fun c hc => by rw [hl, hL]; exact path_le _ _ (by omega)
    have G2 : Hid (∀ j, j < l → 1 ≤ L.getD j 0 ∧ L.getD j 0 < n) := Lib.hid fun j hj => by rw [hl, hL] at hj; rw [hL]; exact path_lt hj hxn
    have G3 : Hid (∀ j, j + 1 < l → L.getD (j + 1) 0 = L.getD j 0 / 2) := Lib.hid fun j hj => by rw [hl, hL] at hj; rw [hL]; exact path_step hj
    have G4 : Hid (0 < l → L.getD (l - 1) 0 = 1) := Lib.hid fun h => by rw [hl, hL] at h ⊢; exact path_last h
    have G5 : Hid (l = 0 ↔ n = 1) := Lib.hid (by rw [hl, hL, path_nil]; omega)
    have HLL : Hid (l ≤ 1000) := Lib.hid (by rw [hl, hL]; exact path_short (by omega))
    have FI := Lib.hid eL; have HL := Lib.hid hl
    clear h t0 bx hW0 hr hn hm hK hl0 hl1 eL hx hin hxn hL hl
    go_enter Try.func7, Try.ntmps7
    go_wp2_with fail
    rw [← HW0.out]
    refine (lives_any _).mono ?_
    rintro e w1 ⟨rfl, b1⟩
    have bx1 := BX.out.below b1
    have v0 : w1.cell? ⟨w.heap.size, 0, none⟩ = some (.slice p n c) := bx1.cell 0 (by simp)
    have v1 : w1.cell? ⟨w.heap.size, 1, none⟩ = some (.slice q m d) := bx1.cell 1 (by simp)
    have B1 := Lib.hid (T0.out.trans (b1.mono T0.out.size))
    have BX1 := Lib.hid bx1
    clear b1 bx1
    go_wp2_with fail
    refine (HP.out _ B1.out).mono ?_
    rintro e w2 ⟨q2, c2, rfl, hr2, b2⟩
    rw [FI.out] at hr2 ⊢
    rw [← HR.out, ← HL.out]
    have B2 := Lib.hid (B1.out.trans (b2.mono B1.out.size))
    have z0 : w2.cell? ⟨w.heap.size, 0, none⟩ = some (.slice p n c) := (BX1.out.below b2).cell 0 (by simp)
    have RD := Lib.hid hr2
    clear b2 hr2 v0 v1 HP
    go_wp2_with fail
    go_loopw [7, 8] (fun a v wr => ∃ k y : Nat, a = .int .i64 ((k + 1 : Nat) : Int) ∧ v = .int .i64 (y : Nat) ∧ n / 2 ^ k = y ∧ 1 ≤ y ∧ k + y ≤ n ∧ wr = w2) (fun _ v _ => (intOf v).toNat)
    case atStart => exact ⟨0, n, rfl, rfl, by simp, hn1, by omega, rfl⟩
    case round =>
      obtain ⟨k, y, rfl, rfl, hky, hy1, hkn, rfl⟩ := hrel
      by_cases hy : 1 < y
      · have e3 : ((y : Int)).tdiv 2 = ((y / 2 : Nat) : Int) := by rw [Int.tdiv_eq_ediv_of_nonneg (by omega)]; omega
        have e4 : IntKind.i64.wrap (((k + 1 : Nat) : Int) + 1) = ((k + 1 + 1 : Nat) : Int) := by rw [IntWalk.i64_in _ (by omega)]; omega
        have HN : Hid (n / 2 ^ (k + 1) = y / 2) := Lib.hid (by rw [Nat.pow_succ, ← Nat.div_div_eq_div_mul, hky])
        clear hky
        go_wp2_with fail
        go_roundw
        case rel => exact ⟨k + 1, y / 2, by go_num, by go_num, HN.out, by omega, by omega, by first | trivial | rfl⟩
        case measure => simp [intOf]; omega
      · obtain rfl : y = 1 := by omega
        have hlk : l ≤ k + 1 := G1.out k (by
          have := Nat.div_add_mod n (2 ^ k)
          have h3 := Nat.mod_lt n (Nat.two_pow_pos k)
          rw [hky] at this
          rw [Nat.pow_succ]; omega)
        have HLK := Lib.hid hlk
        clear hky G1 hlk
        go_wp2_with fail
        go_loopw [4, 9, 10, 35] (fun _ _ _ v wr' => ∃ j : Nat, j ≤ l ∧ v = .int .i64 j ∧ wr' = wr) (fun _ _ _ v _ => l - (intOf v).toNat)
        case atStart => exact ⟨0, by omega, rfl, rfl⟩
        case round =>
          obtain ⟨j, hj, rfl, rfl⟩ := hrel
          by_cases hlt : j < l
          · obtain ⟨a, rfl, ca⟩ := rd_z RD.out j (by rw [up_length, ← HL.out]; exact hlt)
            rw [up_getD _ _ (by rw [← HL.out]; exact hlt)] at ca
            obtain ⟨g1, g2⟩ := G2.out j hlt
            have j0 : (0 : Int) ≤ (j : Int) := by omega
            have j1 : (j : Int) < (l : Int) := by omega
            obtain ⟨v, hv⟩ : ∃ v, v = L.getD j 0 := ⟨_, rfl⟩
            rw [← hv] at ca g1 g2
            have t1 : decide (v < 1) = false := decide_eq_false (by omega)
            have t2 : decide (n ≤ v) = false := decide_eq_false (by omega)
            by_cases hj0 : j = 0
            · have t3 : decide (0 < j) = false := decide_eq_false (by omega)
              have hll := HLL.out
              clear hv hj0
              go_wp2_with fail
              refine ⟨?_, ?measure⟩
              iterate 32 apply Exists.intro
              refine ⟨?rel, rfl⟩
              case rel => exact ⟨j + 1, by omega, by go_num, by first | trivial | rfl⟩
              case measure => simp [intOf]; omega
            · obtain ⟨j', hj'⟩ : ∃ j', j = j' + 1 := ⟨j - 1, by omega⟩
              have g3 := G3.out j' (by omega)
              obtain ⟨a', ea, ca'⟩ := rd_z RD.out j' (by rw [up_length, ← HL.out]; omega)
              cases ea
              rw [up_getD _ _ (by rw [← HL.out]; omega)] at ca'
              obtain ⟨u, hu⟩ : ∃ u, u = L.getD j' 0 := ⟨_, rfl⟩
              rw [← hu] at ca' g3
              rw [← hj', ← hv] at g3
              have t3 : decide (0 < j) = true := decide_eq_true (by omega)
              have e5 : IntKind.i64.wrap ((j : Int) - 1) = (j' : Int) := by rw [IntWalk.i64_in _ (by have := HLL.out; omega)]; omega
              have e6 : ((u : Int)).tdiv 2 = (v : Int) := by rw [Int.tdiv_eq_ediv_of_nonneg (by omega)]; omega
              have j2 : (0 : Int) ≤ (j' : Int) := by omega
              have j3 : (j' : Int) < (l : Int) := by omega
              have hll := HLL.out
              clear hv hu g3 hj' hj0
              go_wp2_with fail
              refine ⟨?_, ?measure⟩
              iterate 32 apply Exists.intro
              refine ⟨?rel, rfl⟩
              case rel => exact ⟨j + 1, by omega, by go_num, by first | trivial | rfl⟩
              case measure => simp [intOf]; omega
          · obtain rfl : j = l := by omega
            have hlk := HLK.out
            have hll := HLL.out
            by_cases hl0 : j = 0
            · have hn := G5.out.1 hl0
              subst hl0
              subst hn
              go_wp2_with fail
              go_ret
              exact ⟨rfl, B2.out⟩
            · have hn : ¬ n = 1 := fun e => hl0 (G5.out.2 e)
              obtain ⟨j', hj'⟩ : ∃ j', j = j' + 1 := ⟨j - 1, by omega⟩
              have g4 := G4.out (by omega)
              rw [show j - 1 = j' by omega] at g4
              obtain ⟨a, rfl, ca⟩ := rd_z RD.out j' (by rw [up_length, ← HL.out]; omega)
              rw [up_getD _ _ (by rw [← HL.out]; omega), g4] at ca
              have t1 : ((j : Int) == 0) = false := by rw [beq_eq_false_iff_ne]; omega
              have t2 : ((n : Int) == 1) = false := by rw [beq_eq_false_iff_ne]; omega
              have e5 : IntKind.i64.wrap ((j : Int) - 1) = (j' : Int) := by rw [IntWalk.i64_in _ (by omega)]; omega
              have j2 : (0 : Int) ≤ (j' : Int) := by omega
              have j3 : (j' : Int) < (j : Int) := by omega
              clear hj' hl0 g4 hn
              go_wp2_with fail
              go_ret
              exact ⟨rfl, B2.out⟩
end
end Go.Proofs.Ythkgdjclgphodaa.Ls
