/- The document's digits and number. -/
import Derived.Test.YtbegngilbngnoaaDoorZerM
import Derived.Test.YtbegngilbngnoaaDoorOrdCol
import Derived.Test.YtbegngilbngnoaaDoorStepRd
namespace Go.Proofs.YtbegngilbngnoaaDoor.Ze
open Go.RowKit Go.Lib Rw Nm Ls Od

set_option maxHeartbeats 4000000 in
set_option maxRecDepth 100000 in
theorem rdigits_any (n : Nat) (w : World) (hn : n ≤ 65536) : Calls Tryd.prog 23 #[.int .u64 (n : Int)] w (NumsP w (dg n)) := by
  obtain ⟨i0, hi0, hz0, hz1, hz2⟩ := info_parts info_u64
  have hown0 := World.ownsRow_nil w w.heap.size 31 1
  have HO := Lib.hid hown0
  have HLE := Lib.hid (dg_le n)
  have HNN := Lib.hid hn
  clear hown0 hn
  go_enter Tryd.func23, Tryd.ntmps23
  go_wp2_with fail
  go_loopw [0, 3] (fun v0 v wr => ∃ (m : Nat) (out : List Nat), m ≤ 65536 ∧ v0 = .int .u64 m ∧ out ++ dg m = dg n ∧ wr.ownsRow w.heap.size 31 1 v out.length (nums out) ∧ Below w.heap.size w wr) (fun v0 _ _ => (intOf v0).toNat)
  case atStart => exact ⟨n, [], HNN.out, rfl, rfl, HO.out, Below.refl _ _⟩
  case round =>
    obtain ⟨m, out, hm, rfl, he, ho, hb⟩ := hrel
    have HOW := Lib.hid ho; have HB := Lib.hid hb; have HE := Lib.hid he
    have hsz := hb.size
    have hol : out.length ≤ 65536 := by
      have h1 := congrArg List.length he
      rw [List.length_append] at h1
      have := HLE.out; have := HNN.out
      omega
    clear ho hb he
    by_cases h0 : m = 0
    · have HF : Hid (out = dg n) := Lib.hid (by have := HE.out; rw [h0, dg_zero, List.append_nil] at this; exact this)
      obtain ⟨q, c, rfl, hc, hr, hnew⟩ := own_rdN HOW.out
      have HR := Lib.hid hr
      subst h0
      clear hr
      go_wp2_with fail
      go_ret
      rw [← HF.out]
      exact ⟨q, c, rfl, hc, HR.out, hnew, HB.out⟩
    · have t1 : decide ((0 : Int) < (m : Int)) = true := decide_eq_true (by omega)
      have t2 : decide (0 < m) = true := decide_eq_true (by omega)
      obtain ⟨q, d, hq, hd, hdg⟩ : ∃ q d, m = 2 * q + d ∧ (d = 1 ∨ d = 2) ∧ dg m = (d - 1) :: dg q := by
        by_cases ho : m % 2 = 1
        · exact ⟨(m - 1) / 2, 1, by omega, .inl rfl, dg_odd ho⟩
        · exact ⟨(m - 2) / 2, 2, by omega, .inr rfl, dg_even h0 (by omega)⟩
      have HN : Hid ((out ++ [d - 1]) ++ dg q = dg n) := Lib.hid (by rw [← HE.out, hdg]; simp)
      have HT : Hid (nums out ++ [.int .u64 ((d - 1 : Nat) : Int)] = nums (out ++ [d - 1])) := Lib.hid (nums_snoc _ _).symm
      have HLL : Hid ((out ++ [d - 1]).length = out.length + 1) := Lib.hid (by simp)
      have e1 : ((m : Int) - (d : Int)) = ((2 * q : Nat) : Int) := by omega
      have e2 : IntKind.u64.wrap (((2 * q : Nat) : Int)) = ((2 * q : Nat) : Int) := IntWalk.u64_in _ (by omega)
      have e3 : (((2 * q : Nat) : Int)).tdiv 2 = (q : Int) := by
        rw [Int.tdiv_eq_ediv_of_nonneg (by omega)]; omega
      have e4 : IntKind.u64.wrap (q : Int) = (q : Int) := IntWalk.u64_in _ (by omega)
      have hqm : q < m := by rcases hd with rfl | rfl <;> omega
      clear hdg
      rcases hd with rfl | rfl
      · have e5 : (m : Int).tmod 2 = 1 := by rw [Int.tmod_eq_emod_of_nonneg (by omega)]; omega
        have e6 : m % 2 = 1 := by omega
        have e1' : ((m : Int) - 1) = ((2 * q : Nat) : Int) := by omega
        have HQ := Lib.hid hq
        clear hq e1
        go_wp2_with (at_builtin; refine Rw.push rfl _ _ 22 rfl w.heap.size 31 i0 (.int .u64 0) 1 8 Tryd.underlying22 hi0 hz0 hz1 hz2 rfl (by decide) _ _ _ rfl HOW.out [.int .u64 (0 : Int)] rfl rfl rfl (by omega) (by omega) (by omega) ?_)
        intro g4 cap4 w4 hown4 _ _ _ hgr
        have H3 : Hid (w4.ownsRow w.heap.size 31 1 (.slice (some ⟨g4, 0, none⟩) (out.length + 1) cap4) (out ++ [1 - 1]).length (nums (out ++ [1 - 1]))) := Lib.hid (by
          rw [HLL.out, ← HT.out]; exact hown4)
        have H4 := Lib.hid (HB.out.trans hgr)
        clear hown4 hgr
        go_wp2_with fail
        go_roundw
        case rel => exact ⟨q, _, by omega, by go_num, HN.out, H3.out, H4.out⟩
        case measure => simp [intOf]; omega
      · have e5 : (m : Int).tmod 2 = 0 := by rw [Int.tmod_eq_emod_of_nonneg (by omega)]; omega
        have e6 : m % 2 = 0 := by omega
        have e1' : ((m : Int) - 2) = ((2 * q : Nat) : Int) := by omega
        have HQ := Lib.hid hq
        clear hq e1
        go_wp2_with (at_builtin; refine Rw.push rfl _ _ 22 rfl w.heap.size 31 i0 (.int .u64 0) 1 8 Tryd.underlying22 hi0 hz0 hz1 hz2 rfl (by decide) _ _ _ rfl HOW.out [.int .u64 (1 : Int)] rfl rfl rfl (by omega) (by omega) (by omega) ?_)
        intro g4 cap4 w4 hown4 _ _ _ hgr
        have H3 : Hid (w4.ownsRow w.heap.size 31 1 (.slice (some ⟨g4, 0, none⟩) (out.length + 1) cap4) (out ++ [2 - 1]).length (nums (out ++ [2 - 1]))) := Lib.hid (by
          rw [HLL.out, ← HT.out]; exact hown4)
        have H4 := Lib.hid (HB.out.trans hgr)
        clear hown4 hgr
        go_wp2_with fail
        go_roundw
        case rel => exact ⟨q, _, by omega, by go_num, HN.out, H3.out, H4.out⟩
        case measure => simp [intOf]; omega
/-- the number of digits, as far as it is told -/
def nmC (l : List Nat) : Nat := if 65536 < nm l then 65537 else nm l
theorem nmC_big {l : List Nat} {k : Nat} (h : 65536 < nm (l.drop k)) : nmC l = 65537 := by
  have := nm_drop l k
  exact if_pos (by omega)
theorem nmC_small {l : List Nat} (h : nm l ≤ 65536) : nmC l = nm l := if_neg (by omega)
theorem nm_step {l : List Nat} {k : Nat} (h : k < l.length) : nm (l.drop k) = 2 * nm (l.drop (k + 1)) + l.getD k 0 + 1 := by
  rw [List.drop_eq_getElem_cons h, nm, gd h]
set_option maxHeartbeats 4000000 in
set_option maxRecDepth 100000 in
theorem rnumber_any (l : List Nat) (p : Option Addr) (c : Nat) (w : World) (hp : Rd w p (nums l)) (hl : l.length ≤ 17592186044416) (h2 : ∀ d ∈ l, d < 2) :
    Calls Tryd.prog 26 #[.slice p l.length c] w fun e w' => e = .returned (.int .u64 (nmC l : Nat)) ∧ w' = w := by
  have P := Lib.hid hp
  have H2 : Hid (∀ k, k < l.length → l.getD k 0 < 2) := Lib.hid (fun k hk => by rw [gd hk]; exact h2 _ (List.getElem_mem _))
  obtain ⟨n, hn⟩ : ∃ n, n = l.length := ⟨_, rfl⟩
  have HN := Lib.hid hn
  rw [← hn] at hl ⊢
  clear hp h2 hn
  go_enter Tryd.func26, Tryd.ntmps26
  go_wp2_with fail
  go_loopw [3, 4] (fun v i wr => ∃ k : Nat, k ≤ n ∧ i = .int .i64 ((k : Int) - 1) ∧ v = .int .u64 (nm (l.drop k) : Nat) ∧ nm (l.drop k) ≤ 65536 ∧ wr = w) (fun _ i _ => (intOf i + 1).toNat)
  case atStart => exact ⟨n, by omega, rfl, by rw [HN.out, List.drop_length]; rfl, by rw [HN.out, List.drop_length]; simp [nm], rfl⟩
  case round =>
    obtain ⟨k, hk, rfl, rfl, hs, hw⟩ := hrel
    have HW := Lib.hid hw
    have P2 : Hid (Rd wr p (nums l)) := Lib.hid (by rw [hw]; exact P.out)
    clear hw
    obtain ⟨x, hx⟩ : ∃ x, x = nm (l.drop k) := ⟨_, rfl⟩
    rw [← hx] at hs ⊢
    by_cases hk0 : 1 ≤ k
    · obtain ⟨K, rfl⟩ : ∃ K, k = K + 1 := ⟨k - 1, by omega⟩
      have ek : (((K + 1 : Nat) : Int) - 1) = (K : Int) := by omega
      rw [ek]
      obtain ⟨a, rfl, cy⟩ := rd_num P2.out K (by rw [← HN.out]; omega)
      obtain ⟨y, hy⟩ : ∃ y, y = l.getD K 0 := ⟨_, rfl⟩
      have hyb : y < 2 := by rw [hy]; exact H2.out K (by rw [← HN.out]; omega)
      have hst := nm_step (l := l) (k := K) (by rw [← HN.out]; omega)
      rw [← hx, ← hy] at hst
      rw [← hy] at cy
      obtain ⟨z, hz⟩ : ∃ z, z = 2 * x + y + 1 := ⟨_, rfl⟩
      rw [← hz] at hst
      have K0 : (0 : Int) ≤ (K : Int) := by omega
      have K1 : (K : Int) < (n : Int) := by omega
      have t1 : decide ((0 : Int) ≤ (K : Int)) = true := decide_eq_true K0
      have w1 : IntKind.u64.wrap (2 * (x : Int)) = 2 * (x : Int) := IntWalk.u64_in _ (by omega)
      have w2 : IntKind.u64.wrap (2 * (x : Int) + (y : Int)) = 2 * (x : Int) + (y : Int) := IntWalk.u64_in _ (by omega)
      have w3 : IntKind.u64.wrap (2 * (x : Int) + (y : Int) + 1) = (z : Int) := by rw [IntWalk.u64_in _ (by omega)]; omega
      have ez : 2 * (x : Int) + (y : Int) + 1 = (z : Int) := by omega
      by_cases hbig : 65536 < z
      · have F : Hid (nmC l = 65537) := Lib.hid (nmC_big (k := K) (by rw [hst]; exact hbig))
        have b1 : decide ((65536 : Int) < (z : Int)) = true := decide_eq_true (by omega)
        have b2 : decide (65536 < z) = true := decide_eq_true hbig
        clear hx hy hst hz hbig ek
        go_wp2_with fail
        go_ret
        exact ⟨by rw [F.out]; rfl, HW.out⟩
      · have b1 : decide ((65536 : Int) < (z : Int)) = false := decide_eq_false (by omega)
        have b2 : decide (65536 < z) = false := decide_eq_false hbig
        have HZ := Lib.hid hst
        clear hx hy hst hz ek
        go_wp2_with fail
        go_roundw
        case rel => exact ⟨K, by omega, by go_num, by rw [HZ.out], by rw [HZ.out]; omega, HW.out⟩
        case measure => simp [intOf]
    · obtain rfl : k = 0 := by omega
      have F : Hid (nmC l = x) := Lib.hid (by rw [List.drop_zero] at hx; rw [nmC_small (by rw [← hx]; exact hs), hx])
      have t1 : decide ((0 : Int) ≤ ((0 : Nat) : Int) - 1) = false := decide_eq_false (by omega)
      clear hx
      go_wp2_with fail
      go_ret
      exact ⟨by rw [F.out]; rfl, HW.out⟩
/-! ### Digits, Number -/
def dgL (n : Nat) : List Nat := if 1 ≤ n ∧ n ≤ 65536 then dg n else []
def dgE (n : Nat) : Int := if 1 ≤ n ∧ n ≤ 65536 then 0 else 1
/-- numbers in memory, and why none -/
def NE (W : World) (L : List Nat) (r : Int) (e : Ending) (w' : World) : Prop := ∃ (q : Option Addr) (c : Nat), e = .returned (.tuple #[.slice q L.length c, .int .i64 r]) ∧ L.length ≤ c ∧ Rd w' q (nums L) ∧ Below W.heap.size W w'
theorem ne_mk {W w' : World} {L : List Nat} {r : Int} {n : Nat} {q : Option Addr} {c : Nat} (hL : L.length = n) (hc : n ≤ c) (hr : Rd w' q (nums L)) (hb : Below W.heap.size W w') : NE W L r (.returned (.tuple #[.slice q n c, .int .i64 r])) w' := by
  subst hL; exact ⟨q, c, rfl, hc, hr, hb⟩
theorem rdigitsf_any (n : Nat) (w : World) : Calls Tryd.prog 15 #[.int .u64 (n : Int)] w (NE w (dgL n) (dgE n)) := by
  by_cases h : 1 ≤ n ∧ n ≤ 65536
  · have F : Hid (dgL n = dg n ∧ dgE n = 0) := Lib.hid ⟨if_pos h, if_pos h⟩
    have CD := Lib.hid (fun W => rdigits_any n W h.2)
    have t1 : decide ((n : Int) < 1) = false := decide_eq_false (by omega)
    have t2 : decide (n < 1) = false := decide_eq_false (by omega)
    have t3 : decide ((65536 : Int) < (n : Int)) = false := decide_eq_false (by omega)
    have t4 : decide (65536 < n) = false := decide_eq_false (by omega)
    rw [F.out.1, F.out.2]
    obtain ⟨L, hL⟩ : ∃ L, L = dg n := ⟨_, rfl⟩
    rw [← hL] at CD ⊢
    clear h hL
    go_enter Tryd.func15, Tryd.ntmps15
    go_wp2_with fail
    refine (CD.out _).mono ?_
    rintro e w1 ⟨q, c, rfl, hc, hr, _, hb⟩
    have R := Lib.hid hr; have B := Lib.hid hb
    clear hr hb
    go_wp2_with fail
    refine bodyPost_ret (v := .tuple #[.slice q L.length c, .int .i64 0]) (by simp [results, Tryd.results15, go_sem]) rfl ?_
    exact ne_mk rfl hc R.out B.out
  · have F : Hid (dgL n = [] ∧ dgE n = 1) := Lib.hid ⟨if_neg h, if_neg h⟩
    rw [F.out.1, F.out.2]
    have hor : (decide ((n : Int) < 1) = true) ∨ (decide ((n : Int) < 1) = false ∧ decide ((65536 : Int) < (n : Int)) = true) := by
      simp only [decide_eq_true_eq, decide_eq_false_iff_not]; omega
    clear h
    rcases hor with t1 | ⟨t1, t2⟩
    all_goals
      go_enter Tryd.func15, Tryd.ntmps15
      go_wp2_with fail
      refine bodyPost_ret (v := .tuple #[.slice none 0 0, .int .i64 1]) (by simp [results, Tryd.results15, go_sem]) rfl ?_
      exact ne_mk rfl (Nat.le_refl _) (Rd.nil _ _) (Below.refl _ _)
def numR (l : List Nat) : Nat × Int := if l = [] then (0, 7) else if l.all (fun d => decide (d < 2)) = true then (if 65536 < nm l then (0, 8) else (nm l, 0)) else (0, 7)
theorem all_two {l : List Nat} : l.all (fun d => decide (d < 2)) = true ↔ ∀ d ∈ l, d < 2 := by simp
set_option maxHeartbeats 4000000 in
set_option maxRecDepth 100000 in
theorem rnumberf_any (l : List Nat) (p : Option Addr) (c : Nat) (w : World) (hp : Rd w p (nums l)) (hl : l.length ≤ 17592186044416) :
    Calls Tryd.prog 17 #[.slice p l.length c] w fun e w' => e = .returned (.tuple #[.int .u64 ((numR l).1 : Nat), .int .i64 (numR l).2]) ∧ w' = w := by
  by_cases h0 : l = []
  · have F : Hid (numR l = (0, 7)) := Lib.hid (if_pos h0)
    rw [F.out, h0]
    clear hl hp
    go_enter Tryd.func17, Tryd.ntmps17
    go_wp2_with fail
    refine bodyPost_ret (v := .tuple #[.int .u64 0, .int .i64 7]) (by simp [results, Tryd.results17, go_sem]) rfl ?_
    exact ⟨rfl, rfl⟩
  have P := Lib.hid hp
  have CN : Hid (∀ W, Rd W p (nums l) → (∀ d ∈ l, d < 2) → Calls Tryd.prog 26 #[.slice p l.length c] W fun e w' => e = .returned (.int .u64 (nmC l : Nat)) ∧ w' = W) := Lib.hid (fun W h1 h2 => rnumber_any l p c W h1 hl h2)
  have hlen : 0 < l.length := List.length_pos_iff.2 h0
  have H0 := Lib.hid h0
  obtain ⟨n, hn⟩ : ∃ n, n = l.length := ⟨_, rfl⟩
  rw [← hn] at hl hlen CN ⊢
  have HN := Lib.hid hn
  have u1 : ((n : Int) == 0) = false := by rw [beq_eq_false_iff_ne]; omega
  have u2 : (n == 0) = false := by rw [beq_eq_false_iff_ne]; omega
  clear hp h0 hn
  go_enter Tryd.func17, Tryd.ntmps17
  go_wp2_with fail
  go_loopw [12] (fun i wr => ∃ k : Nat, k ≤ n ∧ i = .int .i64 k ∧ (∀ j, j < k → l.getD j 0 < 2) ∧ wr = w) (fun i _ => n - (intOf i).toNat)
  case atStart => exact ⟨0, by omega, rfl, fun j hj => by omega, rfl⟩
  case round =>
    obtain ⟨k, hk, rfl, hall, hw⟩ := hrel
    have HA := Lib.hid hall; have HW := Lib.hid hw
    have P2 : Hid (Rd wr p (nums l)) := Lib.hid (by rw [hw]; exact P.out)
    clear hall hw
    by_cases hlt : k < n
    · obtain ⟨a, rfl, cy⟩ := rd_num P2.out k (by rw [← HN.out]; exact hlt)
      obtain ⟨y, hy⟩ : ∃ y, y = l.getD k 0 := ⟨_, rfl⟩
      rw [← hy] at cy
      have k0 : (0 : Int) ≤ (k : Int) := by omega
      have k1 : (k : Int) < (n : Int) := by omega
      by_cases hyb : y < 2
      · have HB : Hid (∀ j, j < k + 1 → l.getD j 0 < 2) := Lib.hid (fun j hj => by
          rcases Nat.lt_or_ge j k with h | h
          · exact HA.out j h
          · rw [show j = k by omega, ← hy]; exact hyb)
        have b1 : decide ((1 : Int) < (y : Int)) = false := decide_eq_false (by omega)
        have b2 : decide (1 < y) = false := decide_eq_false (by omega)
        clear hy hyb
        go_wp2_with fail
        go_roundw
        case rel => exact ⟨k + 1, by omega, by go_num, HB.out, HW.out⟩
        case measure => simp [intOf]; omega
      · have F : Hid (numR l = (0, 7)) := Lib.hid (by
          unfold numR
          rw [if_neg H0.out, if_neg]
          intro h
          have := all_two.1 h (l.getD k 0) (by rw [gd (by rw [← HN.out]; exact hlt)]; exact List.getElem_mem _)
          rw [← hy] at this; exact hyb this)
        have b1 : decide ((1 : Int) < (y : Int)) = true := decide_eq_true (by omega)
        have b2 : decide (1 < y) = true := decide_eq_true (by omega)
        clear hy hyb
        go_wp2_with fail
        refine bodyPost_ret (v := .tuple #[.int .u64 0, .int .i64 7]) (by simp [results, Tryd.results17, go_sem]) rfl ?_
        exact ⟨by rw [F.out]; rfl, HW.out⟩
    · obtain rfl : k = n := by omega
      have HALL : Hid (∀ d ∈ l, d < 2) := Lib.hid (fun d hd => by
        obtain ⟨j, hj, e⟩ := List.getElem_of_mem hd
        have := HA.out j (by rw [HN.out]; exact hj)
        rw [gd hj] at this; rw [← e]; exact this)
      by_cases hb : 65536 < nm l
      · have F : Hid (numR l = (0, 8) ∧ nmC l = 65537) := Lib.hid ⟨by unfold numR; rw [if_neg H0.out, if_pos (all_two.2 HALL.out), if_pos hb], if_pos hb⟩
        clear hb
        go_wp2_with fail
        refine (CN.out _ P2.out HALL.out).mono ?_
        rintro e w1 ⟨rfl, hw1⟩
        subst hw1
        rw [F.out.2]
        go_wp2_with fail
        refine bodyPost_ret (v := .tuple #[.int .u64 0, .int .i64 8]) (by simp [results, Tryd.results17, go_sem]) rfl ?_
        exact ⟨by rw [F.out.1]; rfl, HW.out⟩
      · have F : Hid (numR l = (nm l, 0) ∧ nmC l = nm l) := Lib.hid ⟨by unfold numR; rw [if_neg H0.out, if_pos (all_two.2 HALL.out), if_neg hb], if_neg hb⟩
        obtain ⟨x, hx⟩ : ∃ x, x = nm l := ⟨_, rfl⟩
        rw [← hx] at F hb
        have b1 : decide ((65536 : Int) < (x : Int)) = false := decide_eq_false (by omega)
        have b2 : decide (65536 < x) = false := decide_eq_false (by omega)
        clear hx hb
        go_wp2_with fail
        refine (CN.out _ P2.out HALL.out).mono ?_
        rintro e w1 ⟨rfl, hw1⟩
        subst hw1
        rw [F.out.2]
        go_wp2_with fail
        refine bodyPost_ret (v := .tuple #[.int .u64 (x : Nat), .int .i64 0]) (by simp [results, Tryd.results17, go_sem]) rfl ?_
        exact ⟨by rw [F.out.1], HW.out⟩
end Go.Proofs.YtbegngilbngnoaaDoor.Ze
