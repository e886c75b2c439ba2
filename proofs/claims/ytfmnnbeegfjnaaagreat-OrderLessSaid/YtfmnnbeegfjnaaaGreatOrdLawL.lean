/- The law OrderLess. -/
import Derived.Test.YtfmnnbeegfjnaaaGreatOrdLives
namespace Go.Proofs.YtfmnnbeegfjnaaaGreat.Od
open Go.RowKit Go.Lib Rw Ls _root_.Go.Proofs.YtfmnnbeegfjnaaaGreat.Nm

theorem pless_ends (l : List Nat) (ad : Addr) (n c x y : Nat) (w : World) (hn : n = l.length) (hr : Rd w (some ad) (nums l)) (hl : n ≤ 17592186044416) (hx : x < n) (hy : y < n) :
    ∀ z, Calls Tryz.prog 23 #[.slice (some (ad.add x)) (n - x) (c - x), .slice (some (ad.add y)) (n - y) (c - y)] (w.drewN z) fun e w' => e = .returned (.bool (lt l x y)) ∧ ∃ m, w' = w.drewN m := fun z => by
  have h1 := hr.cut x (by rw [nums_length]; omega)
  have h2 := hr.cut y (by rw [nums_length]; omega)
  have e1 : (nums l).drop x = nums (l.drop x) := by simp [nums, List.map_drop]
  have e2 : (nums l).drop y = nums (l.drop y) := by simp [nums, List.map_drop]
  rw [e1] at h1
  rw [e2] at h2
  have h := _root_.Go.Proofs.YtfmnnbeegfjnaaaGreat.Nm.less_any (l.drop x) (l.drop y) _ _ (c - x) (c - y) (w.drewN z) (h1.drewN z) (h2.drewN z) (by rw [List.length_drop]; omega) (by rw [List.length_drop]; omega)
  rw [List.length_drop, List.length_drop, ← hn] at h
  exact h.mono fun e w' ⟨h1, h2⟩ => ⟨h1, z, h2.symm⟩
theorem less_big (n : Nat) (p : Option Addr) (c : Nat) (w : World) (h : 300 < n) :
    Calls Tryz.prog 5 #[.slice p n c] w fun e w' => e = .returned (.bool true) ∧ Below w.heap.size w w' := by
  have CL := Lib.hid (fun W => lives_any W)
  have t1 : decide ((300 : Int) < (n : Int)) = true := decide_eq_true (by omega)
  have t3 : decide (300 < n) = true := decide_eq_true h
  clear h
  go_enter Tryz.func5, Tryz.ntmps5
  go_wp2_with fail
  refine (CL.out _).mono ?_
  rintro e w1 ⟨rfl, b⟩
  have B := Lib.hid b
  clear b
  go_wp2_with fail
  go_ret
  exact ⟨rfl, B.out⟩
set_option maxHeartbeats 4000000 in
set_option maxRecDepth 100000 in
theorem less_law (l : List Nat) (p : Option Addr) (c : Nat) (w : World) (hp : Rd w p (nums l)) (hlc : l.length ≤ c) :
    Calls Tryz.prog 5 #[.slice p l.length c] w fun e w' => e = .returned (.bool true) ∧ Below w.heap.size w w' := by
  by_cases hc : 300 < l.length
  · exact less_big _ p c w hc
  obtain ⟨n, hn⟩ : ∃ n, n = l.length := ⟨_, rfl⟩
  have hel := ends_length l
  rw [← hn] at hel
  have CA0 : ∀ W, Rd W p (nums l) → Calls Tryz.prog 10 #[.slice p l.length c] W (Pl W n (ends l) 0) := fun W h => pl_of hel (pends_any l p c W h hlc (by omega))
  obtain ⟨M, hM⟩ : ∃ M, inv (up (ends l)) = some M := by
    have := (inv_is (up (ends l))).2 ⟨ends l, rfl, by rw [hel, hn]; exact ends_perm l⟩
    exact Option.isSome_iff_exists.1 this
  have CI0 : ∀ q d W, Rd W q (zs (up (ends l))) → Calls Tryz.prog 12 #[.slice q n d] W (Pl W M.length M 0) := fun q d W h => by
    have h2 := pinverse_any (up (ends l)) q d W h (by rw [up_length]; omega)
    rw [(inv_yes hM).1, (inv_yes hM).2, up_length, hel] at h2
    exact pl_of rfl h2
  have CR0 : ∀ q d W, Rd W p (nums l) → Rd W q (zs (up (ends l))) → Calls Tryz.prog 17 #[.slice p n c, .slice q n d] W fun e w' => e = .returned (.bool true) ∧ Below W.heap.size W w' := fun q d W h1 h2 => by
    have h := pright_any l (up (ends l)) p q c d W h1 h2 hlc (by omega) (by rw [up_length]; omega)
    rw [right_iff.2 rfl, up_length, hel, ← hn] at h
    exact h
  have HUP : Hid (Up l (ends l)) := Lib.hid (ends_up l)
  have hmem : Hid (∀ i, i < n → (ends l).getD i 0 < n) := Lib.hid (fun i hi => by
    rw [hn]
    refine ends_mem.1 ?_
    rw [gd (by omega)]; exact List.getElem_mem _)
  rw [← hn] at CA0 hc hlc ⊢
  have CA := Lib.hid CA0; have CI := Lib.hid CI0; have CR := Lib.hid CR0
  have CL := Lib.hid (fun W => lives_any W)
  have P := Lib.hid hp
  have HEL := Lib.hid hel
  have HN := Lib.hid hn
  have t1 : decide ((300 : Int) < (n : Int)) = false := decide_eq_false (by omega)
  have t2 : decide (300 < n) = false := decide_eq_false hc
  obtain ⟨m, hm⟩ : ∃ m, m = M.length := ⟨_, rfl⟩
  rw [← hm] at CI
  have hn3 : n ≤ 300 := by omega
  clear CA0 CI0 CR0 hp hn hel hM hm hc
  have B : Hid (Below w.heap.size w w) := Lib.hid (Below.refl _ _)
  go_enter Tryz.func5, Tryz.ntmps5
  go_wp2_with fail
  refine (CL.out _).mono ?_
  rintro e w0 ⟨rfl, b⟩
  replace P := Lib.hid (P.out.below b)
  replace B := Lib.hid (B.out.trans (b.mono B.out.size))
  clear b
  go_wp2_with fail
  refine (CA.out _ P.out).mono ?_
  rintro e w1 ⟨qa, ca, rfl, _, ra, b⟩
  replace P := Lib.hid (P.out.below b)
  replace B := Lib.hid (B.out.trans (b.mono B.out.size))
  have RA := Lib.hid ra
  clear b ra
  go_wp2_with fail
  refine (CI.out _ _ _ RA.out).mono ?_
  rintro e w2 ⟨qb, cb, rfl, _, _, b⟩
  replace P := Lib.hid (P.out.below b)
  replace RA := Lib.hid (RA.out.below b)
  replace B := Lib.hid (B.out.trans (b.mono B.out.size))
  clear b
  go_wp2_with fail
  refine (CR.out _ _ _ P.out RA.out).mono ?_
  rintro e w3 ⟨rfl, b⟩
  replace P := Lib.hid (P.out.below b)
  replace RA := Lib.hid (RA.out.below b)
  replace B := Lib.hid (B.out.trans (b.mono B.out.size))
  clear b
  obtain ⟨W1, hW1⟩ : ∃ W1, W1 = w3 := ⟨_, rfl⟩
  rw [← hW1] at P RA B
  rw [← hW1]
  clear hW1
  go_wp2_with fail
  go_loopw [44] (fun i wr => ∃ k j : Nat, k ≤ n ∧ i = .int .i64 k ∧ wr = W1.drewN j) (fun i _ => n - (intOf i).toNat)
  case atStart => exact ⟨0, 0, by omega, rfl, rfl⟩
  case round =>
    obtain ⟨k, j, hk, rfl, hw⟩ := hrel
    have HW := Lib.hid hw
    have P2 : Hid (Rd wr p (nums l)) := Lib.hid (by rw [hw]; exact P.out.drewN j)
    have Q2 : Hid (Rd wr qa (zs (up (ends l)))) := Lib.hid (by rw [hw]; exact RA.out.drewN j)
    have B2 : Hid (∀ z, Below w.heap.size w (wr.drewN z)) := Lib.hid (fun z => by rw [hw]; exact below_drewN (below_drewN B.out j) z)
    clear hw
    by_cases hlt : k < n
    · by_cases h0 : k = 0
      · subst h0
        go_wp2_with fail
        go_quiet (fail)
        go_wp2_with fail
        go_roundw
        case rel => exact ⟨1, _, by omega, by go_num, by rw [HW.out, World.drewN_drewN]⟩
        case measure => simp [intOf]; omega
      · obtain ⟨x, hx⟩ : ∃ x, x = (ends l).getD (k - 1) 0 := ⟨_, rfl⟩
        obtain ⟨y, hy⟩ : ∃ y, y = (ends l).getD k 0 := ⟨_, rfl⟩
        have hxm : x < n := by rw [hx]; exact hmem.out _ (by omega)
        have hym : y < n := by rw [hy]; exact hmem.out _ hlt
        have hlt2 : lt l x y = true := by
          rw [hx, hy, gd (by rw [HEL.out]; omega), gd (by rw [HEL.out]; exact hlt)]
          exact List.pairwise_iff_getElem.1 HUP.out (k - 1) k (by rw [HEL.out]; omega) (by rw [HEL.out]; exact hlt) (by omega)
        obtain ⟨b, rfl, cx⟩ := rd_z Q2.out (k - 1) (by rw [up_length, HEL.out]; omega)
        obtain ⟨b', hbb, cy⟩ := rd_z Q2.out k (by rw [up_length, HEL.out]; omega)
        cases hbb
        rw [up_getD _ _ (by rw [HEL.out]; omega), ← hx] at cx
        rw [up_getD _ _ (by rw [HEL.out]; exact hlt), ← hy] at cy
        obtain ⟨ad, rfl, _⟩ := P2.out.form (by rw [nums_length, ← HN.out]; omega)
        have LE := pless_ends l ad n c x y wr HN.out P2.out (by omega) hxm hym
        rw [hlt2] at LE
        have HLE := Lib.hid LE
        have k0 : (0 : Int) < (k : Int) := by omega
        have tk : decide ((0 : Int) < (k : Int)) = true := decide_eq_true k0
        have tk2 : decide (0 < k) = true := decide_eq_true (by omega)
        have e1 : ((k : Int) - 1).toNat = k - 1 := by omega
        have k1 : (0 : Int) ≤ (k : Int) - 1 := by omega
        have k2 : (k : Int) - 1 < (n : Int) := by omega
        have k3 : (k : Int) < (n : Int) := by omega
        have x0 : (0 : Int) ≤ (x : Int) := by omega
        have y0 : (0 : Int) ≤ (y : Int) := by omega
        have x1 : (x : Int) ≤ (n : Int) := by omega
        have y1 : (y : Int) ≤ (n : Int) := by omega
        have cx1 : ¬ (c = x) := by omega
        have cy1 : ¬ (c = y) := by omega
        clear hx hy LE h0 hlt2
        go_wp2_with fail
        go_quiet ((go_at_call 23; exact HLE.out _))
        go_wp2_with fail
        go_roundw
        case rel => exact ⟨k + 1, _, by omega, by go_num, by rw [HW.out, World.drewN_drewN]⟩
        case measure => simp [intOf]; omega
    · obtain rfl : k = n := by omega
      have B3 : Hid (Below w.heap.size w wr) := Lib.hid (by have := B2.out 0; exact this)
      go_wp2_with fail
      go_ret
      exact ⟨rfl, B3.out⟩
end Go.Proofs.YtfmnnbeegfjnaaaGreat.Od
