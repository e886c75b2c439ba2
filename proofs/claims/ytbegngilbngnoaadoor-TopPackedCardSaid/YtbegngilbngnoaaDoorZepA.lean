/- The walks of package zeros' digits, Digits, ahead. -/
import Derived.Test.YtbegngilbngnoaaDoorZerC
namespace Go.Proofs.YtbegngilbngnoaaDoor.Ze
open Go.RowKit Go.Lib Rw Ls Od _root_.Go.Proofs.YtbegngilbngnoaaDoor.Nm

theorem dg_step {m : Nat} (h : 0 < m) : dg m = (m - 1) % 2 :: dg ((m - 1) / 2) := by
  by_cases ho : m % 2 = 1
  · rw [dg_odd ho, show (m - 1) % 2 = 0 by omega]
  · rw [dg_even (by omega) (by omega), show (m - 1) % 2 = 1 by omega, show (m - 2) / 2 = (m - 1) / 2 by omega]
set_option maxHeartbeats 4000000 in
set_option maxRecDepth 100000 in
theorem pdg_any (n : Nat) (w : World) (hn : n ≤ 65536) : Calls Tryd.prog 22 #[.int .u64 (n : Int)] w (NumsP w (dg n)) := by
  obtain ⟨i0, hi0, hz0, hz1, hz2⟩ := info_parts info_u64
  have HLE := Lib.hid (dg_le n)
  have HNN := Lib.hid hn
  obtain ⟨B, hB⟩ : ∃ B, B = w.heap.size := ⟨_, rfl⟩
  have HBW := Lib.hid hB
  obtain ⟨w1, hw1⟩ : ∃ w1, w1 = w.alloc (.cells #[] 31) := ⟨_, rfl⟩
  have HO : Hid (w1.ownsRow B 31 1 (.slice (some ⟨B, 0, none⟩) 0 0) 0 (nums [])) := Lib.hid (by
    have := World.ownsRow_lit (e := 31) (base := B) (size := 1) w #[] 0 (by omega) (by decide) rfl
    rw [← hw1, ← hB] at this
    exact this)
  have HB0 : Hid (Below B w w1) := Lib.hid (by rw [hw1, hB]; exact (Below.refl _ _).alloc (Nat.le_refl _) _)
  clear hn
  go_enter Tryd.func22, Tryd.ntmps22
  go_wp2_with fail
  rw [← hw1, ← hB]
  clear hw1 hB
  go_loopw [0, 3] (fun v0 v wr => ∃ (m : Nat) (out : List Nat), m ≤ 65536 ∧ v0 = .int .u64 m ∧ Hid (out ++ dg m = dg n) ∧ Hid (wr.ownsRow B 31 1 v out.length (nums out)) ∧ Hid (Below B w wr)) (fun v0 _ _ => (intOf v0).toNat)
  case atStart => exact ⟨n, [], HNN.out, rfl, Lib.hid rfl, HO, HB0⟩
  case round =>
    obtain ⟨m, out, hm, rfl, HE, HOW, HB⟩ := hrel
    have hwz : B ≤ wr.heap.size := by rw [HBW.out]; exact HB.out.size
    have hol : out.length ≤ 65536 := by
      have h1 := congrArg List.length HE.out
      rw [List.length_append] at h1
      have := HLE.out; have := HNN.out
      omega
    by_cases h0 : m = 0
    · have HF : Hid (out = dg n) := Lib.hid (by have := HE.out; rw [h0, dg_zero, List.append_nil] at this; exact this)
      obtain ⟨q, c, rfl, hc, hr, hnew⟩ := own_rdN HOW.out
      have HR := Lib.hid hr
      have HNW : Hid (NewAt w.heap.size q) := Lib.hid (by rw [← HBW.out]; exact hnew)
      subst h0
      clear hr hnew
      go_wp2_with fail
      go_ret
      rw [← HF.out]
      exact ⟨q, c, rfl, hc, HR.out, HNW.out, by rw [← HBW.out]; exact HB.out⟩
    · have t1 : decide ((0 : Int) < (m : Int)) = true := decide_eq_true (by omega)
      have t2 : decide (0 < m) = true := decide_eq_true (by omega)
      obtain ⟨r, hr⟩ : ∃ r, r = m - 1 := ⟨_, rfl⟩
      obtain ⟨d, hd⟩ : ∃ d, d = r % 2 := ⟨_, rfl⟩
      obtain ⟨q, hq⟩ : ∃ q, q = r / 2 := ⟨_, rfl⟩
      have hdg := dg_step (m := m) (by omega)
      rw [← hr, ← hd, ← hq] at hdg
      have HN : Hid ((out ++ [d]) ++ dg q = dg n) := Lib.hid (by rw [← HE.out, hdg]; simp)
      have HT : Hid (nums out ++ [.int .u64 (d : Int)] = nums (out ++ [d])) := Lib.hid (nums_snoc _ _).symm
      have HLL : Hid ((out ++ [d]).length = out.length + 1) := Lib.hid (by simp)
      have e1 : (m : Int) - 1 = (r : Int) := by omega
      have e2 : IntKind.u64.wrap (r : Int) = (r : Int) := IntWalk.u64_in _ (by omega)
      have e3 : (r : Int).tmod 2 = (d : Int) := by rw [Int.tmod_eq_emod_of_nonneg (by omega)]; omega
      have e4 : (r : Int).tdiv 2 = (q : Int) := by rw [Int.tdiv_eq_ediv_of_nonneg (by omega)]; omega
      have e5 : IntKind.u64.wrap (d : Int) = (d : Int) := IntWalk.u64_in _ (by omega)
      have e6 : IntKind.u64.wrap (q : Int) = (q : Int) := IntWalk.u64_in _ (by omega)
      have e7 : (r : Int) % 2 = (d : Int) := by omega
      have e8 : (r : Int) / 2 = (q : Int) := by omega
      have hqm : q < m ∧ q ≤ 65536 := by omega
      clear hdg hd hq hr
      go_wp2_with (at_builtin; refine Rw.push rfl _ _ 22 rfl B 31 i0 (.int .u64 0) 1 8 Tryd.underlying22 hi0 hz0 hz1 hz2 rfl (by decide) _ _ _ rfl HOW.out [.int .u64 (d : Int)] rfl rfl rfl (by omega) (by omega) hwz ?_)
      intro g4 cap4 w4 hown4 _ _ _ hgr
      have H3 : Hid (w4.ownsRow B 31 1 (.slice (some ⟨g4, 0, none⟩) (out.length + 1) cap4) (out ++ [d]).length (nums (out ++ [d]))) := Lib.hid (by rw [HLL.out, ← HT.out]; exact hown4)
      have H4 := Lib.hid (HB.out.trans hgr)
      clear hown4 hgr
      go_wp2_with fail
      go_roundw
      case rel => exact ⟨q, _, hqm.2, by go_num, HN, H3, H4⟩
      case measure => simp [intOf]; omega
theorem pdigits_any (n : Nat) (w : World) : Calls Tryd.prog 14 #[.int .u64 (n : Int)] w (NE w (dgL n) (dgE n)) := by
  by_cases h : 1 ≤ n ∧ n ≤ 65536
  · have F : Hid (dgL n = dg n ∧ dgE n = 0) := Lib.hid ⟨if_pos h, if_pos h⟩
    have CD := Lib.hid (fun W => pdg_any n W h.2)
    have t1 : ((n : Int) == 0) = false := by rw [beq_eq_false_iff_ne]; omega
    have t2 : (n == 0) = false := by rw [beq_eq_false_iff_ne]; omega
    have t3 : decide ((65536 : Int) < (n : Int)) = false := decide_eq_false (by omega)
    have t4 : decide (65536 < n) = false := decide_eq_false (by omega)
    rw [F.out.1, F.out.2]
    obtain ⟨L, hL⟩ : ∃ L, L = dg n := ⟨_, rfl⟩
    rw [← hL] at CD ⊢
    clear h hL
    go_enter Tryd.func14, Tryd.ntmps14
    go_wp2_with fail
    refine (CD.out _).mono ?_
    rintro e w1 ⟨q, c, rfl, hc, hr, _, hb⟩
    have R := Lib.hid hr; have B := Lib.hid hb
    clear hr hb
    go_wp2_with fail
    refine bodyPost_ret (v := .tuple #[.slice q L.length c, .int .i64 0]) (by simp [results, Tryd.results14, go_sem]) rfl ?_
    exact ne_mk rfl hc R.out B.out
  · have F : Hid (dgL n = [] ∧ dgE n = 1) := Lib.hid ⟨if_neg h, if_neg h⟩
    rw [F.out.1, F.out.2]
    by_cases h0 : n = 0
    · subst h0
      clear h
      go_enter Tryd.func14, Tryd.ntmps14
      go_wp2_with fail
      refine bodyPost_ret (v := .tuple #[.slice none 0 0, .int .i64 1]) (by simp [results, Tryd.results14, go_sem]) rfl ?_
      exact ne_mk rfl (Nat.le_refl _) (Rd.nil _ _) (Below.refl _ _)
    · have t1 : ((n : Int) == 0) = false := by rw [beq_eq_false_iff_ne]; omega
      have t2 : (n == 0) = false := by rw [beq_eq_false_iff_ne]; omega
      have t3 : decide ((65536 : Int) < (n : Int)) = true := decide_eq_true (by omega)
      have t4 : decide (65536 < n) = true := decide_eq_true (by omega)
      clear h h0
      go_enter Tryd.func14, Tryd.ntmps14
      go_wp2_with fail
      refine bodyPost_ret (v := .tuple #[.slice none 0 0, .int .i64 1]) (by simp [results, Tryd.results14, go_sem]) rfl ?_
      exact ne_mk rfl (Nat.le_refl _) (Rd.nil _ _) (Below.refl _ _)
/-! ### the digits ahead -/
def hd (l : List Nat) : List Nat := l.takeWhile fun d => decide (d < 2)
theorem hd_lt : ∀ (l : List Nat), ∀ d ∈ hd l, d < 2
  | [], d, h => by simp [hd] at h
  | x :: l, d, h => by
    by_cases hx : x < 2
    · unfold hd at h
      rw [List.takeWhile_cons, if_pos (by simpa using hx)] at h
      rcases List.mem_cons.1 h with rfl | h
      · exact hx
      · exact hd_lt l d h
    · unfold hd at h
      rw [List.takeWhile_cons, if_neg (by simpa using hx)] at h
      simp at h
theorem hd_pre (l : List Nat) : ∃ rest, l = hd l ++ rest ∧ ∀ x ∈ rest.head?, 2 ≤ x := by
  refine ⟨l.dropWhile fun d => decide (d < 2), (List.takeWhile_append_dropWhile ..).symm, fun x hx => ?_⟩
  have := List.head?_dropWhile_not (fun d => decide (d < 2)) l
  rw [hx] at this
  simpa using this
theorem hd_take {l : List Nat} {k : Nat} (hk : k ≤ l.length) (h1 : ∀ j, j < k → l.getD j 0 < 2) (h2 : k = l.length ∨ 2 ≤ l.getD k 0) : hd l = l.take k := by
  induction l generalizing k with
  | nil => simp [hd]
  | cons x l ih =>
    cases k with
    | zero =>
      have : ¬ x < 2 := by
        rcases h2 with h2 | h2
        · simp at h2
        · simpa using h2
      simp [hd, this]
    | succ k =>
      have hx : x < 2 := by simpa using h1 0 (by omega)
      have := ih (k := k) (by simpa using hk) (fun j hj => by simpa using h1 (j + 1) (by omega)) (by
        rcases h2 with h2 | h2
        · exact .inl (by simpa using h2)
        · exact .inr (by simpa using h2))
      unfold hd at this ⊢
      rw [List.takeWhile_cons, if_pos (by simpa using hx), this, List.take_succ_cons]
set_option maxHeartbeats 4000000 in
set_option maxRecDepth 100000 in
theorem ahead_any (l : List Nat) (p : Option Addr) (n c : Nat) (w : World) (hn : n = l.length) (hc : n ≤ c) (hp : Rd w p (nums l)) (hl : n ≤ 17592186044416) :
    Calls Tryd.prog 40 #[.slice p n c] w fun e w' => e = .returned (.slice p (hd l).length c) ∧ w' = w := by
  have P := Lib.hid hp; have HN := Lib.hid hn
  clear hp hn
  go_enter Tryd.func40, Tryd.ntmps40
  go_wp2_with fail
  go_loopw [3] (fun i wr => ∃ k : Nat, k ≤ n ∧ i = .int .i64 k ∧ Hid (∀ j, j < k → l.getD j 0 < 2) ∧ Hid (wr = w)) (fun i _ => n - (intOf i).toNat)
  case atStart => exact ⟨0, Nat.zero_le _, rfl, Lib.hid (fun j hj => by omega), Lib.hid rfl⟩
  case round =>
    obtain ⟨k, hk, rfl, HA, HW⟩ := hrel
    have P2 : Hid (Rd wr p (nums l)) := Lib.hid (by rw [HW.out]; exact P.out)
    by_cases hlt : k < n
    · obtain ⟨a, rfl, cy⟩ := rd_num P2.out k (by rw [← HN.out]; exact hlt)
      obtain ⟨y, hy⟩ : ∃ y, y = l.getD k 0 := ⟨_, rfl⟩
      rw [← hy] at cy
      have HY := Lib.hid hy
      have k0 : (0 : Int) ≤ (k : Int) := by omega
      have k1 : (k : Int) < (n : Int) := by omega
      have k2 : decide ((k : Int) < (n : Int)) = true := decide_eq_true k1
      have k3 : decide (k < n) = true := decide_eq_true hlt
      clear hy
      by_cases hyb : y < 2
      · have HB2 : Hid (∀ j, j < k + 1 → l.getD j 0 < 2) := Lib.hid (fun j hj => by
          rcases Nat.lt_or_ge j k with h | h
          · exact HA.out j h
          · rw [show j = k by omega, ← HY.out]; exact hyb)
        have d1 : decide ((y : Int) ≤ 1) = true := decide_eq_true (by omega)
        have d2 : decide (y ≤ 1) = true := decide_eq_true (by omega)
        clear hyb
        go_wp2_with fail
        go_roundw
        case rel => exact ⟨k + 1, by omega, by go_num, HB2, HW⟩
        case measure => simp [intOf]; omega
      · have F : Hid ((hd l).length = k) := Lib.hid (by rw [hd_take (k := k) (by rw [← HN.out]; omega) HA.out (.inr (by rw [← HY.out]; omega)), List.length_take, ← HN.out]; omega)
        have d1 : decide ((y : Int) ≤ 1) = false := decide_eq_false (by omega)
        have d2 : decide (y ≤ 1) = false := decide_eq_false (by omega)
        have z1 : (k : Int) ≤ (c : Int) := by omega
        clear hyb
        go_wp2_with fail
        go_ret
        exact ⟨by rw [F.out]; rfl, HW.out⟩
    · obtain rfl : k = n := by omega
      have F : Hid ((hd l).length = k) := Lib.hid (by rw [hd_take (k := k) (by rw [← HN.out]; omega) HA.out (.inl HN.out), List.length_take, ← HN.out]; omega)
      have k1 : ¬ (k : Int) < (k : Int) := by omega
      have k2 : decide ((k : Int) < (k : Int)) = false := decide_eq_false k1
      have k0 : (0 : Int) ≤ (k : Int) := by omega
      have z1 : (k : Int) ≤ (c : Int) := by omega
      go_wp2_with fail
      go_ret
      exact ⟨by rw [F.out]; rfl, HW.out⟩
end Go.Proofs.YtbegngilbngnoaaDoor.Ze
