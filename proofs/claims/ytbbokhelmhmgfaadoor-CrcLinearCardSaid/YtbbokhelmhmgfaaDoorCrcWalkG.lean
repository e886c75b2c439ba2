/- The walk of Apart as the document has it. -/
import Derived.Test.YtbbokhelmhmgfaaDoorCrcWalkF
namespace Go.Proofs.YtbbokhelmhmgfaaDoor.Crc
open Go.RowKit

/-- how many of the first k places of the longer one part; m: the shorter one's bytes -/
def rN (a b : List UInt8) (m k : Nat) : Nat := apN a b (min k m) + (k - m)
/-- the first of them, or -1 -/
def rF (a b : List UInt8) (m k : Nat) : Int := if rN a b m k = 0 then -1 else (apF a b m (min k m) : Nat)
theorem rN_le (a b : List UInt8) (m k : Nat) : rN a b m k ≤ k := by
  unfold rN; have := apN_le a b (min k m); omega
theorem rN_eq (a b : List UInt8) (m k : Nat) (h : k < m) (he : a.getD k 0 = b.getD k 0) : rN a b m (k + 1) = rN a b m k := by
  unfold rN
  rw [show min (k + 1) m = k + 1 from by omega, show min k m = k from by omega]
  simp only [apN, if_pos he]; omega
theorem rF_eq (a b : List UInt8) (m k : Nat) (h : k < m) (he : a.getD k 0 = b.getD k 0) : rF a b m (k + 1) = rF a b m k := by
  unfold rF
  rw [rN_eq a b m k h he, show min (k + 1) m = k + 1 from by omega, show min k m = k from by omega]
  simp only [apF]
  rw [if_neg (fun (x : apN a b k = 0 ∧ a.getD k 0 ≠ b.getD k 0) => x.2 he)]
theorem rN_ne (a b : List UInt8) (m k : Nat) (h : k < m → a.getD k 0 ≠ b.getD k 0) : rN a b m (k + 1) = rN a b m k + 1 := by
  unfold rN
  by_cases hk : k < m
  · rw [show min (k + 1) m = k + 1 from by omega, show min k m = k from by omega]
    simp only [apN, if_neg (h hk)]; omega
  · rw [show min (k + 1) m = m from by omega, show min k m = m from by omega]; omega
theorem rF_new (a b : List UInt8) (m k : Nat) (h : k < m → a.getD k 0 ≠ b.getD k 0) (h0 : rN a b m k = 0) : rF a b m (k + 1) = k := by
  have h1 := rN_ne a b m k h
  unfold rF
  rw [h1, if_neg (by omega)]
  unfold rN at h0
  by_cases hk : k < m
  · rw [show min k m = k from by omega] at h0
    rw [show min (k + 1) m = k + 1 from by omega]
    simp only [apF]
    rw [if_pos ⟨by omega, h hk⟩]
  · rw [show min k m = m from by omega] at h0
    rw [show min (k + 1) m = m from by omega, apF_none a b m m (by omega)]; omega
theorem rF_old (a b : List UInt8) (m k : Nat) (h : k < m → a.getD k 0 ≠ b.getD k 0) (h0 : rN a b m k ≠ 0) : rF a b m (k + 1) = rF a b m k := by
  have h1 := rN_ne a b m k h
  unfold rF
  rw [h1, if_neg (by omega), if_neg h0]
  unfold rN at h0
  by_cases hk : k < m
  · rw [show min k m = k from by omega] at h0 ⊢
    rw [show min (k + 1) m = k + 1 from by omega]
    simp only [apF]
    rw [if_neg (fun x => by have := x.1; omega)]
  · rw [show min k m = m from by omega, show min (k + 1) m = m from by omega]
theorem rF_neg (a b : List UInt8) (m k : Nat) (h : rN a b m k = 0) : rF a b m k < 0 := by unfold rF; rw [if_pos h]; omega
theorem rF_pos (a b : List UInt8) (m k : Nat) (h : rN a b m k ≠ 0) : 0 ≤ rF a b m k := by unfold rF; rw [if_neg h]; omega
theorem rN_end (a b : List UInt8) (m k : Nat) (h : m ≤ k) : rN a b m k = apN a b m + (k - m) := by unfold rN; rw [show min k m = m from by omega]
theorem rF_end (a b : List UInt8) (m k : Nat) (h : m ≤ k) (h0 : rN a b m k ≠ 0) : rF a b m k = (apF a b m m : Nat) := by unfold rF; rw [if_neg h0, show min k m = m from by omega]
theorem eqb_bytes {a b : UInt8} (h : a = b) : ((a.toNat : Int) == (b.toNat : Int)) = true := by subst h; simp
theorem neb_bytes {a b : UInt8} (h : a ≠ b) : ((a.toNat : Int) == (b.toNat : Int)) = false := by
  rw [beq_eq_false_iff_ne]; intro e; apply h; apply UInt8.toNat_inj.1; omega

set_option maxHeartbeats 2000000 in
theorem rapart_any (a b : ByteArray) (w : World) (ha : a.size ≤ maxLen) (hb : b.size ≤ maxLen) :
    Calls Tryd.prog 19 #[.string a, .string b] w fun e w' => e = .returned (.tuple #[.int .i64 (apartN a b), .int .i64 (apartF a b)]) ∧ Below w.heap.size w w' := by
  unfold maxLen at ha hb
  by_cases hgt : b.size < a.size
  · have hm : b.size ≤ a.size := by omega
    have FN : Hid (rN (bytes a) (bytes b) b.size a.size = apartN a b) := Lib.hid (by rw [rN_end _ _ _ _ hm]; unfold apartN; simp only []; rw [show min a.size b.size = b.size from by omega, show max a.size b.size = a.size from by omega]; omega)
    have FF0 : Hid (rN (bytes a) (bytes b) b.size a.size = 0 → (b.size : Int) = apartF a b) := Lib.hid (by intro h0; rw [rN_end _ _ _ _ hm] at h0; unfold apartF; simp only []; rw [show min a.size b.size = b.size from by omega, apF_none _ _ _ _ (by omega)])
    have FF1 : Hid (rN (bytes a) (bytes b) b.size a.size ≠ 0 → rF (bytes a) (bytes b) b.size a.size = apartF a b) := Lib.hid (by intro h0; rw [rF_end _ _ _ _ hm h0]; unfold apartF; simp only []; rw [show min a.size b.size = b.size from by omega])
    go_enter Tryd.func19, Tryd.ntmps19
    go_wp2_with fail
    go_loopw [8, 9, 10] (fun n f i wr => ∃ (k c : Nat) (d : Int), k ≤ a.size ∧ i = .int .i64 k ∧ c = rN (bytes a) (bytes b) b.size k ∧ n = .int .i64 c ∧ d = rF (bytes a) (bytes b) b.size k ∧ f = .int .i64 d ∧ Below w.heap.size w wr) (fun _ _ i _ => a.size - (intOf i).toNat)
    case atStart => exact ⟨0, 0, -1, by omega, rfl, by simp [rN, apN], rfl, by simp [rF, rN, apN], rfl, Below.refl _ _⟩
    case round =>
      obtain ⟨k, c, d, hk, rfl, hc, rfl, hd, rfl, hbl⟩ := hrel
      have hcb : c ≤ k := by rw [hc]; exact rN_le _ _ _ _
      by_cases hlt : k < a.size
      · have hk1 : (0 : Int) ≤ (k : Int) := by omega
        by_cases hlm : k < b.size
        · have hka : k < a.size := by omega
          have hkb : k < b.size := by omega
          have hk2 : (k : Int) < (a.size : Int) := by omega
          have hk3 : (k : Int) < (b.size : Int) := by omega
          have g1 := getD_bytes a k hka
          have g2 := getD_bytes b k hkb
          by_cases he : a[k] = b[k]
          · have hne := eqb_bytes he
            have FC : Hid (c = rN (bytes a) (bytes b) b.size (k + 1)) := Lib.hid (by rw [hc, rN_eq _ _ _ _ hlm (by rw [g1, g2, he])])
            have FD : Hid (d = rF (bytes a) (bytes b) b.size (k + 1)) := Lib.hid (by rw [hd, rF_eq _ _ _ _ hlm (by rw [g1, g2, he])])
            clear g1 g2 he hc hd
            go_wp2_with fail
            go_quiet (fail)
            go_wp2_with fail
            go_roundw
            case rel => exact ⟨k + 1, c, d, by omega, by go_num, FC.out, rfl, FD.out, rfl, below_drewN hbl _⟩
            case measure => simp [intOf]; omega
          · have hne := neb_bytes he
            have hpart : k < b.size → (bytes a).getD k 0 ≠ (bytes b).getD k 0 := fun _ => by rw [g1, g2]; exact he
            have FC : Hid (c + 1 = rN (bytes a) (bytes b) b.size (k + 1)) := Lib.hid (by rw [hc, rN_ne _ _ _ _ hpart])
            by_cases h0 : c = 0
            · have hneg : d < 0 := by rw [hd]; exact rF_neg _ _ _ _ (by rw [← hc]; exact h0)
              have FD : Hid ((k : Int) = rF (bytes a) (bytes b) b.size (k + 1)) := Lib.hid (by rw [rF_new _ _ _ _ hpart (by rw [← hc]; exact h0)])
              clear g1 g2 he hc hd hpart h0
              go_wp2_with fail
              go_quiet (fail)
              go_wp2_with fail
              go_roundw
              case rel => exact ⟨k + 1, c + 1, k, by omega, by go_num, FC.out, by go_num, FD.out, rfl, below_drewN hbl _⟩
              case measure => simp [intOf]; omega
            · have hpos : 0 ≤ d := by rw [hd]; exact rF_pos _ _ _ _ (by rw [← hc]; exact h0)
              have FD : Hid (d = rF (bytes a) (bytes b) b.size (k + 1)) := Lib.hid (by rw [hd, rF_old _ _ _ _ hpart (by rw [← hc]; exact h0)])
              clear g1 g2 he hc hd hpart h0
              go_wp2_with fail
              go_quiet (fail)
              go_wp2_with fail
              go_roundw
              case rel => exact ⟨k + 1, c + 1, d, by omega, by go_num, FC.out, by go_num, FD.out, rfl, below_drewN hbl _⟩
              case measure => simp [intOf]; omega
        · have hd0 : decide (k < b.size) = false := by simp; omega
          have hpart : k < b.size → (bytes a).getD k 0 ≠ (bytes b).getD k 0 := fun h => absurd h hlm
          have FC : Hid (c + 1 = rN (bytes a) (bytes b) b.size (k + 1)) := Lib.hid (by rw [hc, rN_ne _ _ _ _ hpart])
          by_cases h0 : c = 0
          · have hneg : d < 0 := by rw [hd]; exact rF_neg _ _ _ _ (by rw [← hc]; exact h0)
            have FD : Hid ((k : Int) = rF (bytes a) (bytes b) b.size (k + 1)) := Lib.hid (by rw [rF_new _ _ _ _ hpart (by rw [← hc]; exact h0)])
            clear hc hd hpart h0 hlm
            go_wp2_with fail
            go_quiet (fail)
            go_wp2_with fail
            go_roundw
            case rel => exact ⟨k + 1, c + 1, k, by omega, by go_num, FC.out, by go_num, FD.out, rfl, below_drewN hbl _⟩
            case measure => simp [intOf]; omega
          · have hpos : 0 ≤ d := by rw [hd]; exact rF_pos _ _ _ _ (by rw [← hc]; exact h0)
            have FD : Hid (d = rF (bytes a) (bytes b) b.size (k + 1)) := Lib.hid (by rw [hd, rF_old _ _ _ _ hpart (by rw [← hc]; exact h0)])
            clear hc hd hpart h0 hlm
            go_wp2_with fail
            go_quiet (fail)
            go_wp2_with fail
            go_roundw
            case rel => exact ⟨k + 1, c + 1, d, by omega, by go_num, FC.out, by go_num, FD.out, rfl, below_drewN hbl _⟩
            case measure => simp [intOf]; omega
      · obtain rfl : k = a.size := by omega
        rw [FN.out] at hc
        have HC := Lib.hid hc
        by_cases h0 : c = 0
        · have hneg : d < 0 := by rw [hd]; exact rF_neg _ _ _ _ (by rw [FN.out, ← hc]; exact h0)
          have FD := Lib.hid (FF0.out (by rw [FN.out, ← hc]; exact h0))
          clear hc hd h0
          go_wp2_with fail
          go_ret2
          exact ⟨ret2 (by rw [HC.out]) FD.out, hbl⟩
        · have hpos : 0 ≤ d := by rw [hd]; exact rF_pos _ _ _ _ (by rw [FN.out, ← hc]; exact h0)
          have FD : Hid (d = apartF a b) := Lib.hid (hd.trans (FF1.out (by rw [FN.out, ← hc]; exact h0)))
          clear hc hd h0
          go_wp2_with fail
          go_ret2
          exact ⟨ret2 (by rw [HC.out]) FD.out, hbl⟩
  · have hm : a.size ≤ b.size := by omega
    have FN : Hid (rN (bytes a) (bytes b) a.size b.size = apartN a b) := Lib.hid (by rw [rN_end _ _ _ _ hm]; unfold apartN; simp only []; rw [show min a.size b.size = a.size from by omega, show max a.size b.size = b.size from by omega]; omega)
    have FF0 : Hid (rN (bytes a) (bytes b) a.size b.size = 0 → (a.size : Int) = apartF a b) := Lib.hid (by intro h0; rw [rN_end _ _ _ _ hm] at h0; unfold apartF; simp only []; rw [show min a.size b.size = a.size from by omega, apF_none _ _ _ _ (by omega)])
    have FF1 : Hid (rN (bytes a) (bytes b) a.size b.size ≠ 0 → rF (bytes a) (bytes b) a.size b.size = apartF a b) := Lib.hid (by intro h0; rw [rF_end _ _ _ _ hm h0]; unfold apartF; simp only []; rw [show min a.size b.size = a.size from by omega])
    go_enter Tryd.func19, Tryd.ntmps19
    go_wp2_with fail
    go_loopw [8, 9, 10] (fun n f i wr => ∃ (k c : Nat) (d : Int), k ≤ b.size ∧ i = .int .i64 k ∧ c = rN (bytes a) (bytes b) a.size k ∧ n = .int .i64 c ∧ d = rF (bytes a) (bytes b) a.size k ∧ f = .int .i64 d ∧ Below w.heap.size w wr) (fun _ _ i _ => b.size - (intOf i).toNat)
    case atStart => exact ⟨0, 0, -1, by omega, rfl, by simp [rN, apN], rfl, by simp [rF, rN, apN], rfl, Below.refl _ _⟩
    case round =>
      obtain ⟨k, c, d, hk, rfl, hc, rfl, hd, rfl, hbl⟩ := hrel
      have hcb : c ≤ k := by rw [hc]; exact rN_le _ _ _ _
      by_cases hlt : k < b.size
      · have hk1 : (0 : Int) ≤ (k : Int) := by omega
        by_cases hlm : k < a.size
        · have hka : k < a.size := by omega
          have hkb : k < b.size := by omega
          have hk2 : (k : Int) < (a.size : Int) := by omega
          have hk3 : (k : Int) < (b.size : Int) := by omega
          have g1 := getD_bytes a k hka
          have g2 := getD_bytes b k hkb
          by_cases he : a[k] = b[k]
          · have hne := eqb_bytes he
            have FC : Hid (c = rN (bytes a) (bytes b) a.size (k + 1)) := Lib.hid (by rw [hc, rN_eq _ _ _ _ hlm (by rw [g1, g2, he])])
            have FD : Hid (d = rF (bytes a) (bytes b) a.size (k + 1)) := Lib.hid (by rw [hd, rF_eq _ _ _ _ hlm (by rw [g1, g2, he])])
            clear g1 g2 he hc hd
            go_wp2_with fail
            go_quiet (fail)
            go_wp2_with fail
            go_roundw
            case rel => exact ⟨k + 1, c, d, by omega, by go_num, FC.out, rfl, FD.out, rfl, below_drewN hbl _⟩
            case measure => simp [intOf]; omega
          · have hne := neb_bytes he
            have hpart : k < a.size → (bytes a).getD k 0 ≠ (bytes b).getD k 0 := fun _ => by rw [g1, g2]; exact he
            have FC : Hid (c + 1 = rN (bytes a) (bytes b) a.size (k + 1)) := Lib.hid (by rw [hc, rN_ne _ _ _ _ hpart])
            by_cases h0 : c = 0
            · have hneg : d < 0 := by rw [hd]; exact rF_neg _ _ _ _ (by rw [← hc]; exact h0)
              have FD : Hid ((k : Int) = rF (bytes a) (bytes b) a.size (k + 1)) := Lib.hid (by rw [rF_new _ _ _ _ hpart (by rw [← hc]; exact h0)])
              clear g1 g2 he hc hd hpart h0
              go_wp2_with fail
              go_quiet (fail)
              go_wp2_with fail
              go_roundw
              case rel => exact ⟨k + 1, c + 1, k, by omega, by go_num, FC.out, by go_num, FD.out, rfl, below_drewN hbl _⟩
              case measure => simp [intOf]; omega
            · have hpos : 0 ≤ d := by rw [hd]; exact rF_pos _ _ _ _ (by rw [← hc]; exact h0)
              have FD : Hid (d = rF (bytes a) (bytes b) a.size (k + 1)) := Lib.hid (by rw [hd, rF_old _ _ _ _ hpart (by rw [← hc]; exact h0)])
              clear g1 g2 he hc hd hpart h0
              go_wp2_with fail
              go_quiet (fail)
              go_wp2_with fail
              go_roundw
              case rel => exact ⟨k + 1, c + 1, d, by omega, by go_num, FC.out, by go_num, FD.out, rfl, below_drewN hbl _⟩
              case measure => simp [intOf]; omega
        · have hd0 : decide (k < a.size) = false := by simp; omega
          have hpart : k < a.size → (bytes a).getD k 0 ≠ (bytes b).getD k 0 := fun h => absurd h hlm
          have FC : Hid (c + 1 = rN (bytes a) (bytes b) a.size (k + 1)) := Lib.hid (by rw [hc, rN_ne _ _ _ _ hpart])
          by_cases h0 : c = 0
          · have hneg : d < 0 := by rw [hd]; exact rF_neg _ _ _ _ (by rw [← hc]; exact h0)
            have FD : Hid ((k : Int) = rF (bytes a) (bytes b) a.size (k + 1)) := Lib.hid (by rw [rF_new _ _ _ _ hpart (by rw [← hc]; exact h0)])
            clear hc hd hpart h0 hlm
            go_wp2_with fail
            go_quiet (fail)
            go_wp2_with fail
            go_roundw
            case rel => exact ⟨k + 1, c + 1, k, by omega, by go_num, FC.out, by go_num, FD.out, rfl, below_drewN hbl _⟩
            case measure => simp [intOf]; omega
          · have hpos : 0 ≤ d := by rw [hd]; exact rF_pos _ _ _ _ (by rw [← hc]; exact h0)
            have FD : Hid (d = rF (bytes a) (bytes b) a.size (k + 1)) := Lib.hid (by rw [hd, rF_old _ _ _ _ hpart (by rw [← hc]; exact h0)])
            clear hc hd hpart h0 hlm
            go_wp2_with fail
            go_quiet (fail)
            go_wp2_with fail
            go_roundw
            case rel => exact ⟨k + 1, c + 1, d, by omega, by go_num, FC.out, by go_num, FD.out, rfl, below_drewN hbl _⟩
            case measure => simp [intOf]; omega
      · obtain rfl : k = b.size := by omega
        rw [FN.out] at hc
        have HC := Lib.hid hc
        by_cases h0 : c = 0
        · have hneg : d < 0 := by rw [hd]; exact rF_neg _ _ _ _ (by rw [FN.out, ← hc]; exact h0)
          have FD := Lib.hid (FF0.out (by rw [FN.out, ← hc]; exact h0))
          clear hc hd h0
          go_wp2_with fail
          go_ret2
          exact ⟨ret2 (by rw [HC.out]) FD.out, hbl⟩
        · have hpos : 0 ≤ d := by rw [hd]; exact rF_pos _ _ _ _ (by rw [FN.out, ← hc]; exact h0)
          have FD : Hid (d = apartF a b) := Lib.hid (hd.trans (FF1.out (by rw [FN.out, ← hc]; exact h0)))
          clear hc hd h0
          go_wp2_with fail
          go_ret2
          exact ⟨ret2 (by rw [HC.out]) FD.out, hbl⟩
end Go.Proofs.YtbbokhelmhmgfaaDoor.Crc
