/- LoserLeast: the law's walk. -/
import Derived.Test.YthkgdjclgphodaaLsLives
namespace Go.Proofs.Ythkgdjclgphodaa.Ls
open Go.RowKit Rw Nm

theorem lexL_self (x : List Nat) : lexL x x = false := by
  cases h : lexL x x with
  | false => rfl
  | true => have := lexL_asym x x h; rw [h] at this; cases this
theorem least_at {K : Keys} {i j : Nat} (hi : i = wn K 1) (h0 : kat K i ≠ []) (hj : j < K.length) (hx : kat K j ≠ []) : lexL (kat K j) (kat K i) = false ∧ (lexL (kat K i) (kat K j) = true ∨ ¬ j < i) := by
  have h := wn_top (K := K) hj
  rw [← hi] at h
  have l1 : 0 < (kat K i).length := List.length_pos_iff.2 h0
  have l2 : 0 < (kat K j).length := List.length_pos_iff.2 hx
  rcases h with e | h
  · subst e
    exact ⟨lexL_self _, .inr (by omega)⟩
  · unfold bt btk at h
    rw [if_neg (by omega)] at h
    simp only [Bool.or_eq_true, Bool.and_eq_true, Bool.not_eq_true', decide_eq_true_eq] at h
    rcases h with h | ⟨h, h'⟩
    · exact ⟨lexL_asym _ _ h, .inl h⟩
    · exact ⟨h, .inr (by omega)⟩

theorem top_facts {K : Keys} {T : List Int} (h : topE K T = 0) : chk K T = 0 ∧ (1 ≤ K.length ∧ K.length ≤ 256) ∧ T = up (build K) ∧ kat K (wn K 1) ≠ [] ∧ topI K T = (wn K 1 : Nat) ∧ topK K T = kat K (wn K 1) := by
  have hc : chk K T = 0 := by
    unfold topE at h
    by_cases e : chk K T = 0
    · exact e
    · rw [if_neg e] at h; cases h
  have h2 := h
  unfold topE at h2
  rw [if_pos hc] at h2
  have hk : kat K (wn K 1) ≠ [] := fun e => by rw [if_pos e] at h2; cases h2
  rcases chk_cases K T with ⟨_, hK, hT⟩ | h3
  · exact ⟨hc, hK, hT, hk, if_pos h, if_pos h⟩
  · rw [hc] at h3; cases h3

section
variable {K : Keys} {T : List Int} {p q : Option Addr} {c d : Nat} {w : World}
set_option maxHeartbeats 4000000 in
set_option maxRecDepth 100000 in
theorem least_law (h : LsAt w p K q T) (hkb : Kb K) :
    Calls Try.prog 6 #[.agg #[.slice p K.length c, .slice q T.length d]] w fun e w' => e = .returned (.bool true) ∧ Below w.heap.size w w' := by
  obtain ⟨W0, hW0⟩ : ∃ W0, W0 = w.alloc (.cells #[.slice p K.length c, .slice q T.length d] 25) := ⟨_, rfl⟩
  have t0 : Below w.heap.size w W0 := by rw [hW0]; exact (Below.refl _ _).alloc (Nat.le_refl _) _
  have bx := Bx.new w #[.slice p K.length c, .slice q T.length d] 25
  rw [← hW0] at bx
  have HLS : Hid (∀ W, Below w.heap.size w W → LsAt W p K q T) := Lib.hid fun W hW => h.below hW
  have HTop : Hid (∀ W, Below w.heap.size w W → Calls Try.prog 13 #[.agg #[.slice p K.length c, .slice q T.length d]] W fun e w' => TopP W K T e w') := Lib.hid fun W hW => top_any (h.below hW) hkb
  obtain ⟨r, hr⟩ : ∃ r, r = topE K T := ⟨_, rfl⟩
  obtain ⟨n, hn⟩ : ∃ n, n = K.length := ⟨_, rfl⟩
  obtain ⟨m, hm⟩ : ∃ m, m = T.length := ⟨_, rfl⟩
  have T0 := Lib.hid t0; have BX := Lib.hid bx; have HW0 := Lib.hid hW0
  rw [← hn, ← hm] at HTop BX HW0 ⊢
  by_cases h0 : r = 0
  case neg =>
    have FI : Hid (topI K T = 0 ∧ topK K T = []) := Lib.hid ⟨if_neg (by rw [← hr]; exact h0), if_neg (by rw [← hr]; exact h0)⟩
    have hb : (r != 0) = true := by rw [bne_iff_ne]; exact h0
    have HR := Lib.hid hr
    clear h hkb t0 bx hW0 hr hn hm HLS h0
    go_enter Try.func6, Try.ntmps6
    go_wp2_with fail
    rw [← HW0.out]
    refine (lives_any _).mono ?_
    rintro e w1 ⟨rfl, b1⟩
    have bx1 := BX.out.below b1
    have v0 : w1.cell? ⟨w.heap.size, 0, none⟩ = some (.slice p n c) := bx1.cell 0 (by simp)
    have v1 : w1.cell? ⟨w.heap.size, 1, none⟩ = some (.slice q m d) := bx1.cell 1 (by simp)
    have B1 := Lib.hid (T0.out.trans (b1.mono T0.out.size))
    clear b1 bx1
    go_wp2_with fail
    refine (HTop.out _ B1.out).mono ?_
    rintro e w2 ⟨q2, c2, rfl, _, b2⟩
    rw [FI.out.1, FI.out.2, ← HR.out]
    have B2 := Lib.hid (B1.out.trans (b2.mono B1.out.size))
    clear b2 v0 v1
    go_wp2_with fail
    go_ret
    exact ⟨rfl, B2.out⟩
  case pos =>
    subst h0
    obtain ⟨_, hK, hT, hk0, eI, eK⟩ := top_facts hr.symm
    obtain ⟨i, hi⟩ : ∃ i, i = wn K 1 := ⟨_, rfl⟩
    rw [← hi] at hk0 eI eK
    have HL : Hid (∀ j, j < n → kat K j ≠ [] → lexL (kat K j) (kat K i) = false ∧ (lexL (kat K i) (kat K j) = true ∨ ¬ j < i)) := Lib.hid fun j hj hx => least_at hi hk0 (by rw [← hn]; exact hj) hx
    have HKB : Hid (∀ j, j < n → (kat K j).length ≤ 17592186044416) := Lib.hid fun j hj => hkb j (by rw [← hn]; exact hj)
    have hin : i < n := by rw [hn, hi]; exact wn_lt (by omega) (by omega)
    have FI : Hid (topI K T = (i : Nat) ∧ topK K T = kat K i) := Lib.hid ⟨eI, eK⟩
    have HR := Lib.hid hr
    have HKe : Hid (∀ W, Below w.heap.size w W → ∀ j, j < n → ∃ (a : Addr) (q : Option Addr) (d : Nat), p = some a ∧ W.cell? (a.add j) = some (.slice q (kat K j).length d) ∧ Rd W q (nums (kat K j))) := Lib.hid fun W hW j hj => by
      obtain ⟨a, q, d, e, _, hc, hr, _⟩ := (HLS.out W hW).keys j (by rw [← hn]; exact hj)
      exact ⟨a, q, d, e, hc, hr⟩
    have hnb : n ≤ 256 := by rw [hn]; exact hK.2
    clear h hkb t0 bx hW0 hr hn hm HLS hK hT hk0 eI eK hi
    go_enter Try.func6, Try.ntmps6
    go_wp2_with fail
    rw [← HW0.out]
    refine (lives_any _).mono ?_
    rintro e w1 ⟨rfl, b1⟩
    have bx1 := BX.out.below b1
    have v0 : w1.cell? ⟨w.heap.size, 0, none⟩ = some (.slice p n c) := bx1.cell 0 (by simp)
    have v1 : w1.cell? ⟨w.heap.size, 1, none⟩ = some (.slice q m d) := bx1.cell 1 (by simp)
    have B1 := Lib.hid (T0.out.trans (b1.mono T0.out.size))
    have BX1 := Lib.hid bx1
    clear b1 bx1
    go_wp2_with fail
    refine (HTop.out _ B1.out).mono ?_
    rintro e w2 ⟨q2, c2, rfl, hr2, b2⟩
    rw [FI.out.2] at hr2
    rw [FI.out.1, FI.out.2, ← HR.out]
    have B2 := Lib.hid (B1.out.trans (b2.mono B1.out.size))
    have z0 : w2.cell? ⟨w.heap.size, 0, none⟩ = some (.slice p n c) := (BX1.out.below b2).cell 0 (by simp)
    have RD := Lib.hid hr2
    obtain ⟨x, hx⟩ : ∃ x, x = kat K i := ⟨_, rfl⟩
    have HXL : Hid (x.length ≤ 17592186044416) := Lib.hid (by rw [hx]; exact HKB.out i hin)
    rw [← hx] at RD HL ⊢
    obtain ⟨lx, hlx⟩ : ∃ lx, lx = x.length := ⟨_, rfl⟩
    rw [← hlx]
    have HLX := Lib.hid hlx
    clear b2 hr2 v0 v1 hx hlx FI HTop
    go_wp2_with fail
    go_loopw [6, 7, 28] (fun _ _ v wr => ∃ j z : Nat, j ≤ n ∧ v = .int .i64 j ∧ wr = w2.drewN z) (fun _ _ v _ => n - (intOf v).toNat)
    case atStart => exact ⟨0, 0, by omega, rfl, rfl⟩
    case round =>
      obtain ⟨j, z, hj, rfl, rfl⟩ := hrel
      by_cases hlt : j < n
      · have bz : Below w.heap.size w (w2.drewN z) := below_drewN B2.out z
        obtain ⟨a, qy, dy, rfl, cy, ry⟩ := HKe.out _ bz j hlt
        obtain ⟨y, hy⟩ : ∃ y, y = kat K j := ⟨_, rfl⟩
        have HYL : Hid (y.length ≤ 17592186044416) := Lib.hid (by rw [hy]; exact HKB.out j hlt)
        have hLj := HL.out j hlt
        rw [← hy] at cy ry hLj
        have L1 : Hid (Calls Try.prog 23 #[.slice qy y.length dy, .slice q2 lx c2] (w2.drewN z) fun e w' => e = .returned (.bool (lexL y x)) ∧ w2.drewN z = w') :=
          Lib.hid (by rw [HLX.out]; exact less_any y x qy q2 dy c2 _ ry (RD.out.drewN z) (by have := HYL.out; omega) (by have := HXL.out; omega))
        have L2 : Hid (Calls Try.prog 23 #[.slice q2 lx c2, .slice qy y.length dy] (w2.drewN z) fun e w' => e = .returned (.bool (lexL x y)) ∧ w2.drewN z = w') :=
          Lib.hid (by rw [HLX.out]; exact less_any x y q2 qy c2 dy _ (RD.out.drewN z) ry (by have := HXL.out; omega) (by have := HYL.out; omega))
        have j0 : (0 : Int) ≤ (j : Int) := by omega
        have j1 : (j : Int) < (n : Int) := by omega
        have cy2 : w2.cell? (a.add j) = some (.slice qy y.length dy) := by simpa using cy
        obtain ⟨ly, hly⟩ : ∃ ly, ly = y.length := ⟨_, rfl⟩
        rw [← hly] at L1 L2 cy2
        by_cases hy0 : ly = 0
        · have t : decide (0 < ly) = false := decide_eq_false (by omega)
          clear cy ry bz L1 L2 hLj HL hly hy
          go_wp2_with fail
          go_roundw
          case rel => exact ⟨j + 1, z, by omega, by go_num, rfl⟩
          case measure => simp [intOf]; omega
        · have t : decide (0 < ly) = true := decide_eq_true (by omega)
          obtain ⟨g1, g2⟩ := hLj (fun e => hy0 (by rw [hly, e]; rfl))
          rw [g1] at L1
          obtain ⟨u, hu⟩ : ∃ u, u = lexL x y := ⟨_, rfl⟩
          rw [← hu] at L2 g2
          clear cy ry bz hLj HL hly hy g1 hu hy0
          cases u with
          | true =>
            clear g2
            go_wp2_with fail
            refine L1.out.mono ?_
            rintro e w' ⟨rfl, rfl⟩
            go_wp2_with fail
            refine L2.out.mono ?_
            rintro e w' ⟨rfl, rfl⟩
            go_wp2_with fail
            go_roundw
            case rel => exact ⟨j + 1, z, by omega, by go_num, rfl⟩
            case measure => simp [intOf]; omega
          | false =>
            have hji : ¬ j < i := by simpa using g2
            have t2 : decide (j < i) = false := decide_eq_false hji
            clear g2
            go_wp2_with fail
            refine L1.out.mono ?_
            rintro e w' ⟨rfl, rfl⟩
            go_wp2_with fail
            refine L2.out.mono ?_
            rintro e w' ⟨rfl, rfl⟩
            go_wp2_with fail
            go_roundw
            case rel => exact ⟨j + 1, z, by omega, by go_num, rfl⟩
            case measure => simp [intOf]; omega
      · obtain rfl : j = n := by omega
        have BZ := Lib.hid (below_drewN B2.out z)
        clear HL
        go_wp2_with fail
        go_ret
        exact ⟨rfl, BZ.out⟩
end
end Go.Proofs.Ythkgdjclgphodaa.Ls
