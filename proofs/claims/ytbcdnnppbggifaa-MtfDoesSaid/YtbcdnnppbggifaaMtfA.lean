/- The document's rows: find, Check, front, Fresh. -/
import Derived.Test.YtbcdnnppbggifaaMtfM
import Derived.Test.YtbcdnnppbggifaaOrdCol
import Derived.BigQuiet
namespace Go.Proofs.Ytbcdnnppbggifaa.Mt
open Go.RowKit Go.Lib Rw Nm Ls Od

def fnd (L : List Nat) (c : Nat) : Int := if c ∈ L then (L.idxOf c : Nat) else -1
theorem fnd_hit {L : List Nat} {c k : Nat} (h : ∀ j, j < k → L.getD j 0 ≠ c) (hk : k < L.length) (e : L.getD k 0 = c) : fnd L c = (k : Int) := by
  have em : L[k] = c := by rw [← gd hk]; exact e
  have hm : c ∈ L := by rw [← em]; exact List.getElem_mem _
  have hl := List.idxOf_lt_length_of_mem hm
  have h1 : L.getD (L.idxOf c) 0 = c := by rw [gd hl]; exact List.getElem_idxOf hl
  unfold fnd
  rw [if_pos hm]
  congr 1
  rcases Nat.lt_trichotomy (L.idxOf c) k with h2 | h2 | h2
  · exact absurd h1 (h _ h2)
  · exact h2
  · exfalso
    have := List.not_of_lt_findIdx (xs := L) (p := (· == c)) h2
    rw [em] at this
    simp at this
theorem fnd_miss {L : List Nat} {c : Nat} (h : ∀ j, j < L.length → L.getD j 0 ≠ c) : fnd L c = -1 := by
  unfold fnd
  rw [if_neg]
  intro hm
  obtain ⟨j, hj, e⟩ := List.getElem_of_mem hm
  exact h j hj (by rw [gd hj]; exact e)
theorem rfind_any (s : ByteArray) (c : Nat) (w : World) (hs : s.size ≤ 1000000000) :
    Calls Try.prog 20 #[.string s, .int .u8 (c : Int)] w fun e w' => e = .returned (.int .i64 (fnd (bsN s) c)) ∧ w' = w := by
  have HL := Lib.hid (bsN_length s)
  go_enter Try.func20, Try.ntmps20
  go_wp2_with fail
  go_loopw [5] (fun i wr => ∃ k : Nat, k ≤ s.size ∧ i = .int .i64 k ∧ (∀ j, j < k → (bsN s).getD j 0 ≠ c) ∧ wr = w) (fun i _ => s.size - (intOf i).toNat)
  case atStart => exact ⟨0, by omega, rfl, fun j hj => by omega, rfl⟩
  case round =>
    obtain ⟨k, hk, rfl, hno, hw⟩ := hrel
    have HNO := Lib.hid hno; have HW := Lib.hid hw
    clear hno hw
    by_cases hlt : k < s.size
    · obtain ⟨x, hx⟩ : ∃ x, x = (s[k]'hlt).toNat := ⟨_, rfl⟩
      have ex : ((s[k]'hlt).toNat : Int) = (x : Int) := by rw [hx]
      have HX : Hid ((bsN s).getD k 0 = x) := Lib.hid (by rw [bsN_getD s k hlt, hx])
      clear hx
      by_cases he : x = c
      · have F : Hid (fnd (bsN s) c = (k : Int)) := Lib.hid (fnd_hit HNO.out (by rw [HL.out]; exact hlt) (by rw [HX.out]; exact he))
        have e1 : ((x : Int) == (c : Int)) = true := by rw [beq_iff_eq]; omega
        have e2 : (x == c) = true := by rw [beq_iff_eq]; exact he
        clear he
        go_wp2_with fail
        go_ret
        exact ⟨by rw [F.out]; rfl, HW.out⟩
      · have HN : Hid (∀ j, j < k + 1 → (bsN s).getD j 0 ≠ c) := Lib.hid (fun j hj => by
          rcases Nat.lt_or_ge j k with h | h
          · exact HNO.out j h
          · rw [show j = k by omega, HX.out]; exact he)
        have e1 : ((x : Int) == (c : Int)) = false := by rw [beq_eq_false_iff_ne]; omega
        have e2 : (x == c) = false := by rw [beq_eq_false_iff_ne]; exact he
        clear he
        go_wp2_with fail
        go_roundw
        case rel => exact ⟨k + 1, by omega, by go_num, HN.out, HW.out⟩
        case measure => simp [intOf]; omega
    · obtain rfl : k = s.size := by omega
      have F : Hid (fnd (bsN s) c = -1) := Lib.hid (fnd_miss (by rw [HL.out]; exact HNO.out))
      go_wp2_with fail
      go_ret
      exact ⟨by rw [F.out]; rfl, HW.out⟩
/-- why a row is none -/
def rowE (L : List Nat) : Int := if Row 256 L then 0 else 2
theorem rowE_yes {L : List Nat} (h : Row 256 L) : rowE L = 0 := if_pos h
theorem rowE_no {L : List Nat} (h : ¬ Row 256 L) : rowE L = 2 := if_neg h
theorem rcheckr_any (s : ByteArray) (w : World) :
    Calls Try.prog 15 #[.string s] w fun e w' => e = .returned (.int .i64 (rowE (bsN s))) ∧ w' = w := by
  have HL := Lib.hid (bsN_length s)
  by_cases hs : s.size = 256
  · have u : ((s.size : Int) == 256) = true := by rw [beq_iff_eq]; omega
    have u2 : (s.size == 256) = true := by rw [beq_iff_eq]; exact hs
    have u3 : ((s.size : Int) != 256) = false := by rw [bne_eq_false_iff_eq]; omega
    have u4 : (s.size != 256) = false := by rw [bne_eq_false_iff_eq]; exact hs
    have CF := Lib.hid (fun c W => rfind_any s c W (by omega))
    have HS := Lib.hid hs
    clear hs
    go_enter Try.func15, Try.ntmps15
    go_wp2_with fail
    go_loopw [3] (fun i wr => ∃ k : Nat, k ≤ 256 ∧ i = .int .i64 k ∧ (∀ c, c < k → c ∈ bsN s) ∧ wr = w) (fun i _ => 256 - (intOf i).toNat)
    case atStart => exact ⟨0, by omega, rfl, fun j hj => by omega, rfl⟩
    case round =>
      obtain ⟨k, hk, rfl, hall, hw⟩ := hrel
      have HA := Lib.hid hall; have HW := Lib.hid hw
      clear hall hw
      by_cases hlt : k < 256
      · have t1 : decide ((k : Int) < 256) = true := decide_eq_true (by omega)
        have t2 : decide (k < 256) = true := decide_eq_true hlt
        have ew : IntKind.u8.wrap (k : Int) = (k : Int) := IntWalk.u8_in _ (by omega)
        by_cases hm : k ∈ bsN s
        · obtain ⟨x, hx⟩ : ∃ x, x = (bsN s).idxOf k := ⟨_, rfl⟩
          have F : Hid (fnd (bsN s) k = (x : Int)) := Lib.hid (by unfold fnd; rw [if_pos hm, hx])
          have HN : Hid (∀ c, c < k + 1 → c ∈ bsN s) := Lib.hid (fun c hc => by
            rcases Nat.lt_or_ge c k with h | h
            · exact HA.out c h
            · rw [show c = k by omega]; exact hm)
          have t3 : decide ((x : Int) < 0) = false := decide_eq_false (by omega)
          clear hm hx
          go_wp2_with fail
          refine (CF.out k _).mono ?_
          rintro e w1 ⟨rfl, rfl⟩
          rw [F.out]
          go_wp2_with fail
          go_roundw
          case rel => exact ⟨k + 1, by omega, by go_num, HN.out, HW.out⟩
          case measure => simp [intOf]; omega
        · have F : Hid (fnd (bsN s) k = -1) := Lib.hid (by unfold fnd; rw [if_neg hm])
          have F2 : Hid (rowE (bsN s) = 2) := Lib.hid (rowE_no (fun h => hm (h.2 k hlt)))
          clear hm
          go_wp2_with fail
          refine (CF.out k _).mono ?_
          rintro e w1 ⟨rfl, rfl⟩
          rw [F.out]
          go_wp2_with fail
          go_ret
          exact ⟨by rw [F2.out]; rfl, HW.out⟩
      · obtain rfl : k = 256 := by omega
        have F2 : Hid (rowE (bsN s) = 0) := Lib.hid (rowE_yes ⟨by rw [HL.out, HS.out], HA.out⟩)
        go_wp2_with fail
        go_ret
        exact ⟨by rw [F2.out]; rfl, HW.out⟩
  · have u : ((s.size : Int) == 256) = false := by rw [beq_eq_false_iff_ne]; omega
    have u2 : (s.size == 256) = false := by rw [beq_eq_false_iff_ne]; exact hs
    have F2 : Hid (rowE (bsN s) = 2) := Lib.hid (rowE_no (fun h => hs (by rw [← HL.out]; exact h.1)))
    clear hs
    go_enter Try.func15, Try.ntmps15
    go_wp2_with fail
    go_ret
    exact ⟨by rw [F2.out]; rfl, rfl⟩
/-! ### strings cut and joined -/
theorem bsN_app (a b : ByteArray) : bsN (a ++ b) = bsN a ++ bsN b := by simp [bsN, ByteArray.data_append]
theorem bsN_cut (s : ByteArray) (a b : Nat) : bsN (s.extract a b) = ((bsN s).drop a).take (b - a) := by
  simp [bsN, ByteArray.data_extract, List.extract, List.map_drop, List.map_take]
theorem bsN_front (s : ByteArray) (i : Nat) (hi : i < s.size) : bsN (s.extract i (i + 1) ++ s.extract 0 i ++ s.extract (i + 1) s.size) = front (bsN s) i := by
  have hl := bsN_length s
  have h1 : i < (bsN s).length := by rw [hl]; exact hi
  rw [bsN_app, bsN_app, bsN_cut, bsN_cut, bsN_cut, front]
  congr 1
  · congr 1
    rw [gd h1, List.drop_eq_getElem_cons h1, show i + 1 - i = 1 by omega]
    rfl
  · exact List.take_of_length_le (by rw [List.length_drop]; omega)
theorem rfrontr_any (s : ByteArray) (i : Nat) (w : World) (hi : i < s.size) (hs : s.size ≤ 1000000000) :
    Calls Try.prog 21 #[.string s, .int .i64 (i : Int)] w fun e w' => e = .returned (.string (ofN (front (bsN s) i))) ∧ ∃ n, w' = w.drewN n := by
  have i0 : (0 : Int) ≤ (i : Int) := by omega
  have i1 : (i : Int) ≤ (s.size : Int) := by omega
  have i2 : (i : Int) + 1 ≤ (s.size : Int) := by omega
  have i3 : (0 : Int) ≤ (i : Int) + 1 := by omega
  have i4 : (i : Int) ≤ (i : Int) + 1 := by omega
  have ew : IntKind.i64.wrap ((i : Int) + 1) = (i : Int) + 1 := IntWalk.i64_in _ (by omega)
  go_enter Try.func21, Try.ntmps21
  go_wp2_with fail
  go_quiet (fail)
  go_wp2_with fail
  obtain ⟨S, hS⟩ : ∃ S, S = s.extract i (i + 1) ++ s.extract 0 i ++ s.extract (i + 1) s.size := ⟨_, rfl⟩
  have E : Hid (S = ofN (front (bsN s) i)) := Lib.hid (by rw [← bsN_front s i hi, ← hS, ofN_bsN])
  rw [← hS]
  clear hS
  go_ret
  exact ⟨by rw [← E.out]; rfl, nq, rfl⟩
end Go.Proofs.Ytbcdnnppbggifaa.Mt
