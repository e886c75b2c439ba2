/- The document's Room. -/
import Derived.Test.YtbegngilbngnoaaPkA
namespace Go.Proofs.Ytbegngilbngnoaa.Pk
open Go.RowKit Go.Lib Rw Ls Od _root_.Go.Proofs.Ytbegngilbngnoaa.Nm

/-- what is taken of the room by so many lengths -/
def tookT (ls : List Int) (lm k : Nat) : Nat := sum (fun i => if 0 < ls.getD i 0 then 2 ^ (lm - (ls.getD i 0).toNat) else 0) (List.range k)
theorem tookT_succ (ls : List Int) (lm k : Nat) : tookT ls lm (k + 1) = tookT ls lm k + if 0 < ls.getD k 0 then 2 ^ (lm - (ls.getD k 0).toNat) else 0 := by
  unfold tookT
  rw [List.range_succ, sum_app, sum_cons, sum_nil]; rfl
theorem tookT_le (ls : List Int) (lm : Nat) (h : lm ≤ 15) : ∀ k, tookT ls lm k ≤ k * 32768
  | 0 => by simp [tookT, sum_nil]
  | k + 1 => by
    have h1 := tookT_le ls lm h k
    rw [tookT_succ]
    have h2 : (if 0 < ls.getD k 0 then 2 ^ (lm - (ls.getD k 0).toNat) else 0) ≤ 32768 := by
      split
      · exact Nat.pow_le_pow_right (n := 2) (by omega) (show lm - (ls.getD k 0).toNat ≤ 15 by omega)
      · omega
    omega
def okR (ls : List Int) (lim : Int) : Bool := decide (1 ≤ lim) && decide (lim ≤ 15) && decide (ls.length ≤ 512)
def roomR (ls : List Int) (lim : Int) : Int × Int := if okR ls lim = true then (if ls.all (fun z => decide (0 ≤ z) && decide (z ≤ lim)) = true then ((2 ^ lim.toNat : Nat) - (tookT ls lim.toNat ls.length : Nat), 0) else (0, 7)) else (0, 1)
theorem shl_i64 (k : Nat) (h : k ≤ 15) : wrap64 ((2 : Int) ^ k) = ((2 ^ k : Nat) : Int) := by
  have h1 : 2 ^ k ≤ 2 ^ 15 := Nat.pow_le_pow_right (by omega) h
  have h2 : 2 ^ 15 = 32768 := by decide
  have e : ((2 : Int)) ^ k = ((2 ^ k : Nat) : Int) := by simp
  rw [e]
  generalize 2 ^ k = y at h1 ⊢
  unfold wrap64
  omega
set_option maxHeartbeats 4000000 in
set_option maxRecDepth 100000 in
theorem rroom_any (ls : List Int) (lim : Int) (q : Option Addr) (d : Nat) (w : World) (hq : Rd w q (zs ls)) (hm : ls.length ≤ 17592186044416) (hlim : -9223372036854775808 ≤ lim ∧ lim ≤ 9223372036854775807) :
    Calls Try.prog 13 #[.slice q ls.length d, .int .i64 lim] w fun e w' => e = .returned (.tuple #[.int .i64 (roomR ls lim).1, .int .i64 (roomR ls lim).2]) ∧ w' = w := by
  have Q := Lib.hid hq
  obtain ⟨m, hm2⟩ : ∃ m, m = ls.length := ⟨_, rfl⟩
  have HM := Lib.hid hm2
  rw [← hm2] at hm ⊢
  clear hq hm2
  cases ho : okR ls lim with
  | false =>
    have F : Hid (roomR ls lim = (0, 1)) := Lib.hid (by unfold roomR; rw [ho]; rfl)
    have hor : lim < 1 ∨ (¬ lim < 1 ∧ 15 < lim) ∨ (¬ lim < 1 ∧ ¬ 15 < lim ∧ 512 < m) := by
      unfold okR at ho
      simp only [Bool.and_eq_false_iff, decide_eq_false_iff_not, ← HM.out] at ho
      omega
    clear ho
    rcases hor with h | ⟨h, h2⟩ | ⟨h, h2, h3⟩
    · have e1 : decide (lim < 1) = true := decide_eq_true h
      clear h
      go_enter Try.func13, Try.ntmps13
      go_wp2_with fail
      refine bodyPost_ret (v := .tuple #[.int .i64 0, .int .i64 1]) (by simp [results, Try.results13, go_sem]) rfl ?_
      exact ⟨by rw [F.out], rfl⟩
    · have e1 : decide (lim < 1) = false := decide_eq_false h
      have e2 : decide (15 < lim) = true := decide_eq_true h2
      clear h h2
      go_enter Try.func13, Try.ntmps13
      go_wp2_with fail
      refine bodyPost_ret (v := .tuple #[.int .i64 0, .int .i64 1]) (by simp [results, Try.results13, go_sem]) rfl ?_
      exact ⟨by rw [F.out], rfl⟩
    · have e1 : decide (lim < 1) = false := decide_eq_false h
      have e2 : decide (15 < lim) = false := decide_eq_false h2
      have e3 : decide ((512 : Int) < (m : Int)) = true := decide_eq_true (by omega)
      have e4 : decide (512 < m) = true := decide_eq_true h3
      clear h h2 h3
      go_enter Try.func13, Try.ntmps13
      go_wp2_with fail
      refine bodyPost_ret (v := .tuple #[.int .i64 0, .int .i64 1]) (by simp [results, Try.results13, go_sem]) rfl ?_
      exact ⟨by rw [F.out], rfl⟩
  | true =>
    have HOK := Lib.hid ho
    obtain ⟨g1, g2, g3⟩ : 1 ≤ lim ∧ lim ≤ 15 ∧ m ≤ 512 := by
      unfold okR at ho
      simp only [Bool.and_eq_true, decide_eq_true_eq, ← HM.out] at ho
      omega
    obtain ⟨lm, rfl⟩ := Int.eq_ofNat_of_zero_le (show 0 ≤ lim by omega)
    have hl1 : 1 ≤ lm ∧ lm ≤ 15 := by omega
    obtain ⟨x0, hx0⟩ : ∃ x0 : Nat, x0 = 2 ^ lm := ⟨_, rfl⟩
    have sh0 := shl_i64 lm hl1.2
    rw [← hx0] at sh0
    have hx0b : x0 ≤ 32768 := by rw [hx0]; exact Nat.pow_le_pow_right (n := 2) (by omega) hl1.2
    have HX0 := Lib.hid hx0
    have e1 : decide ((lm : Int) < 1) = false := decide_eq_false (by omega)
    have e2 : decide ((15 : Int) < (lm : Int)) = false := decide_eq_false (by omega)
    have e3 : decide ((512 : Int) < (m : Int)) = false := decide_eq_false (by omega)
    have e4 : decide (512 < m) = false := decide_eq_false (by omega)
    have e5 : decide (15 < lm) = false := decide_eq_false (by omega)
    have e6 : decide (lm < 1) = false := decide_eq_false (by omega)
    have w0 : IntKind.u64.wrap ((lm : Int)) = (lm : Int) := IntWalk.u64_in _ (by omega)
    clear ho g1 g2 hx0
    go_enter Try.func13, Try.ntmps13
    go_wp2_with fail
    have HSH := Lib.hid sh0
    clear sh0
    go_loopw [6, 25] (fun v i wr => ∃ (k y : Nat), k ≤ m ∧ i = .int .i64 k ∧ v = .int .i64 ((x0 : Int) - (y : Int)) ∧ Hid (y = tookT ls lm k) ∧ Hid (∀ j, j < k → 0 ≤ ls.getD j 0 ∧ ls.getD j 0 ≤ (lm : Int)) ∧ wr = w) (fun _ i _ => m - (intOf i).toNat)
    case atStart => exact ⟨0, 0, Nat.zero_le _, rfl, by rw [show ((0 : Nat) : Int) = 0 from rfl, Int.sub_zero]; exact congrArg _ (by first | rfl | exact HSH.out), Lib.hid rfl, Lib.hid (fun j hj => by omega), rfl⟩
    case round =>
      obtain ⟨k, y, hk, rfl, rfl, HY, HG, hw⟩ := hrel
      have HW := Lib.hid hw
      have Q2 : Hid (Rd wr q (zs ls)) := Lib.hid (by rw [hw]; exact Q.out)
      have hyb : y ≤ k * 32768 := by rw [HY.out]; exact tookT_le ls lm hl1.2 k
      clear hw
      by_cases hlt : k < m
      · obtain ⟨b, rfl, cz⟩ := rd_z Q2.out k (by rw [← HM.out]; exact hlt)
        have HS := Lib.hid (tookT_succ ls lm k)
        obtain ⟨z, hz⟩ : ∃ z, z = ls.getD k 0 := ⟨_, rfl⟩
        have HZ := Lib.hid hz
        rw [← hz] at cz HS
        have k0 : (0 : Int) ≤ (k : Int) := by omega
        have k1 : (k : Int) < (m : Int) := by omega
        clear hz
        by_cases hg : 0 ≤ z ∧ z ≤ (lm : Int)
        · have HG2 : Hid (∀ j, j < k + 1 → 0 ≤ ls.getD j 0 ∧ ls.getD j 0 ≤ (lm : Int)) := Lib.hid (fun j hj => by
            rcases Nat.lt_or_ge j k with h | h
            · exact HG.out j h
            · rw [show j = k by omega, ← HZ.out]; exact hg)
          obtain ⟨u, rfl⟩ := Int.eq_ofNat_of_zero_le hg.1
          have f1 : decide ((u : Int) < 0) = false := decide_eq_false (by omega)
          have f2 : decide ((lm : Int) < (u : Int)) = false := decide_eq_false (by omega)
          have f3 : decide (lm < u) = false := decide_eq_false (by omega)
          have hul : u ≤ lm := by omega
          clear hg
          by_cases hu : 0 < u
          · have f4 : decide ((0 : Int) < (u : Int)) = true := decide_eq_true (by omega)
            have f5 : decide (0 < u) = true := decide_eq_true hu
            obtain ⟨t, ht⟩ : ∃ t, t = lm - u := ⟨_, rfl⟩
            have v1 : (lm : Int) - (u : Int) = (t : Int) := by omega
            have v2 : IntKind.i64.wrap ((t : Int)) = (t : Int) := IntWalk.i64_in _ (by omega)
            have v3 : IntKind.u64.wrap ((t : Int)) = (t : Int) := IntWalk.u64_in _ (by omega)
            have ht15 : t ≤ 15 := by omega
            obtain ⟨x1, hx1⟩ : ∃ x1 : Nat, x1 = 2 ^ t := ⟨_, rfl⟩
            have hx1b : x1 ≤ 32768 := by rw [hx1]; exact Nat.pow_le_pow_right (n := 2) (by decide) ht15
            have HX1 := Lib.hid hx1
            clear hx1
            obtain ⟨y2, hy2⟩ : ∃ y2, y2 = y + x1 := ⟨_, rfl⟩
            have v4 : (x0 : Int) - (y : Int) - (x1 : Int) = (x0 : Int) - (y2 : Int) := by omega
            have v5 : IntKind.i64.wrap ((x0 : Int) - (y2 : Int)) = (x0 : Int) - (y2 : Int) := IntWalk.i64_in _ (by omega)
            have HY2 : Hid (y2 = tookT ls lm (k + 1)) := Lib.hid (by rw [HS.out, if_pos (by omega), ← HY.out, hy2, HX1.out, ht]; rfl)
            have sh1 := shl_i64 t ht15
            rw [← HX1.out] at sh1
            clear hu ht hy2 HS
            go_wp2_with fail
            go_roundw
            case rel => exact ⟨k + 1, y2, by omega, by go_num, rfl, HY2, HG2, HW.out⟩
            case measure => simp [intOf]; omega
          · have f4 : decide ((0 : Int) < (u : Int)) = false := decide_eq_false (by omega)
            have f5 : decide (0 < u) = false := decide_eq_false hu
            have HY2 : Hid (y = tookT ls lm (k + 1)) := Lib.hid (by rw [HS.out, if_neg (by omega), ← HY.out, Nat.add_zero])
            clear hu HS
            go_wp2_with fail
            go_roundw
            case rel => exact ⟨k + 1, y, by omega, by go_num, rfl, HY2, HG2, HW.out⟩
            case measure => simp [intOf]; omega
        · have F : Hid (roomR ls (lm : Int) = (0, 7)) := Lib.hid (by
            unfold roomR
            rw [if_pos HOK.out, if_neg]
            intro h
            rw [List.all_eq_true] at h
            have h2 : k < ls.length := by rw [← HM.out]; exact hlt
            have := h (ls[k]) (List.getElem_mem h2)
            simp only [Bool.and_eq_true, decide_eq_true_eq] at this
            apply hg
            rw [HZ.out, List.getD_eq_getElem?_getD, List.getElem?_eq_getElem h2]
            exact this)
          have hor : z < 0 ∨ (¬ z < 0 ∧ (lm : Int) < z) := by omega
          clear hg HS
          rcases hor with h | ⟨h, h2⟩
          · have f1 : decide (z < 0) = true := decide_eq_true h
            clear h
            go_wp2_with fail
            refine bodyPost_ret (v := .tuple #[.int .i64 0, .int .i64 7]) (by simp [results, Try.results13, go_sem]) rfl ?_
            exact ⟨by rw [F.out], HW.out⟩
          · have f1 : decide (z < 0) = false := decide_eq_false h
            have f2 : decide ((lm : Int) < z) = true := decide_eq_true h2
            clear h h2
            go_wp2_with fail
            refine bodyPost_ret (v := .tuple #[.int .i64 0, .int .i64 7]) (by simp [results, Try.results13, go_sem]) rfl ?_
            exact ⟨by rw [F.out], HW.out⟩
      · obtain rfl : k = m := by omega
        have k1 : ¬ (k : Int) < (k : Int) := by omega
        have F : Hid (roomR ls (lm : Int) = ((x0 : Int) - (y : Int), 0)) := Lib.hid (by
          unfold roomR
          rw [if_pos HOK.out, if_pos, Int.toNat_natCast, HX0.out, HY.out, ← HM.out]
          rw [List.all_eq_true]
          intro x hx
          obtain ⟨j, hj, e⟩ := List.getElem_of_mem hx
          have := HG.out j (by rw [HM.out]; exact hj)
          rw [List.getD_eq_getElem?_getD, List.getElem?_eq_getElem hj] at this
          rw [← e]
          simp only [Bool.and_eq_true, decide_eq_true_eq]
          exact this)
        go_wp2_with fail
        refine bodyPost_ret (v := .tuple #[.int .i64 ((x0 : Int) - (y : Int)), .int .i64 0]) (by simp [results, Try.results13, go_sem]) rfl ?_
        exact ⟨by rw [F.out], HW.out⟩
end Go.Proofs.Ytbegngilbngnoaa.Pk
