/- The law SkewFewer. -/
import Derived.Test.YtonlbcibfbbpgaaSkLawP
import Derived.Test.YtonlbcibfbbpgaaArr
import Derived.IntWalk
namespace Go.Proofs.Ytonlbcibfbbpgaa.Sk
open Go.RowKit Go.Lib Rw Ls Od _root_.Go.Proofs.Ytonlbcibfbbpgaa.Nm

theorem fewer_big (n : Nat) (p : Option Addr) (c : Nat) (w : World) (h : 300 < n) :
    Calls Try.prog 5 #[.slice p n c] w fun e w' => e = .returned (.bool true) ∧ Below w.heap.size w w' := by
  have CL := Lib.hid (fun W => lives_any W)
  have t1 : decide ((300 : Int) < (n : Int)) = true := decide_eq_true (by omega)
  have t3 : decide (300 < n) = true := decide_eq_true h
  clear h
  go_enter Try.func5, Try.ntmps5
  go_wp2_with fail
  refine (CL.out _).mono ?_
  rintro e w1 ⟨rfl, b⟩
  have B := Lib.hid b
  clear b
  go_wp2_with fail
  go_ret
  exact ⟨rfl, B.out⟩
theorem fewer_no (l : List Nat) (p : Option Addr) (c : Nat) (w : World) (hp : Rd w p (nums l)) (hl : l.length ≤ 300) (ho : okL l = false) :
    Calls Try.prog 5 #[.slice p l.length c] w fun e w' => e = .returned (.bool true) ∧ Below w.heap.size w w' := by
  have CL := Lib.hid (fun W => lives_any W)
  have CR0 : ∀ W, Rd W p (nums l) → Calls Try.prog 11 #[.slice p l.length c] W (RdQ W 0 [] 0 1) := fun W h => by
    have h2 := preduce_any l p c W h (by omega)
    rw [(rd_no ho).1, (rd_no ho).2, (smp_no ho).2] at h2
    exact rdq_of rfl h2
  have CT0 : ∀ W, Rd W p (nums l) → Calls Try.prog 9 #[.slice p l.length c] W (TrQ W 0 [] 1) := fun W h => by
    have h2 := ptriples_any l p c W h (by omega)
    rw [tr_no ho, (smp_no ho).2] at h2
    exact trq_of rfl h2
  obtain ⟨n, hn⟩ : ∃ n, n = l.length := ⟨_, rfl⟩
  rw [← hn] at CR0 CT0 hl ⊢
  have CR := Lib.hid CR0; have CT := Lib.hid CT0
  have P := Lib.hid hp
  have t1 : decide ((300 : Int) < (n : Int)) = false := decide_eq_false (by omega)
  have t3 : decide (300 < n) = false := decide_eq_false (by omega)
  clear CR0 CT0 hp hn ho
  have B : Hid (Below w.heap.size w w) := Lib.hid (Below.refl _ _)
  go_enter Try.func5, Try.ntmps5
  go_wp2_with fail
  refine (CL.out _).mono ?_
  rintro e w0 ⟨rfl, b⟩
  replace P := Lib.hid (P.out.below b)
  replace B := Lib.hid (B.out.trans (b.mono B.out.size))
  clear b
  go_wp2_with fail
  refine (CR.out _ P.out).mono ?_
  rintro e w1 ⟨qa, ca, rfl, _, _, b⟩
  replace P := Lib.hid (P.out.below b)
  replace B := Lib.hid (B.out.trans (b.mono B.out.size))
  clear b
  go_wp2_with fail
  refine (CT.out _ P.out).mono ?_
  rintro e w2 ⟨qb, cb, rfl, _, _, b⟩
  replace P := Lib.hid (P.out.below b)
  replace B := Lib.hid (B.out.trans (b.mono B.out.size))
  clear b
  go_wp2_with fail
  go_ret
  exact ⟨rfl, B.out⟩
/-- what was told -/
def Hd (R : List Nat) (k : Nat) (H : List Bool) : Prop := ∀ i, i < k → H.getD (R.getD i 0) false = true
theorem hd_set {R : List Nat} {k : Nat} {H : List Bool} (h : Hd R k H) (hx : R.getD k 0 < H.length) : Hd R (k + 1) (H.set (R.getD k 0) true) := fun i hi => by
  by_cases e : R.getD i 0 = R.getD k 0
  · rw [e]
    generalize R.getD k 0 = x at hx
    simp [List.getD_eq_getElem?_getD, hx]
  · have hik : i < k := by
      rcases Nat.lt_or_ge i k with h1 | h1
      · exact h1
      · exact absurd (by rw [show i = k by omega]) e
    have := h i hik
    generalize R.getD k 0 = x at e
    generalize R.getD i 0 = y at e this
    simpa [List.getD_eq_getElem?_getD, List.getElem?_set_ne (fun h => e h.symm)] using this
set_option maxHeartbeats 8000000 in
set_option maxRecDepth 100000 in
theorem fewer_law (l : List Nat) (p : Option Addr) (c : Nat) (w : World) (hp : Rd w p (nums l)) :
    Calls Try.prog 5 #[.slice p l.length c] w fun e w' => e = .returned (.bool true) ∧ Below w.heap.size w w' := by
  by_cases hc : 300 < l.length
  · exact fewer_big _ p c w hc
  cases ho : okL l with
  | false => exact fewer_no l p c w hp (by omega) ho
  | true =>
    obtain ⟨ti1, hi1, hy0, hy1, hy2⟩ := info_parts info_bool
    have CL := Lib.hid (fun W => lives_any W)
    obtain ⟨m, hm⟩ : ∃ m, m = mm l.length := ⟨_, rfl⟩
    have hm2 := mm_le l.length
    rw [← hm] at hm2
    have CR0 : ∀ W, Rd W p (nums l) → Calls Try.prog 11 #[.slice p l.length c] W (RdQ W m (red l) (many l) 0) := fun W h => by
      have h2 := preduce_any l p c W h (by omega)
      rw [(rd_yes ho).1, (rd_yes ho).2, (smp_yes ho).2] at h2
      exact rdq_of (by rw [red_length, hm]) h2
    have CT0 : ∀ W, Rd W p (nums l) → Calls Try.prog 9 #[.slice p l.length c] W (TrQ W m (trips l) 0) := fun W h => by
      have h2 := ptriples_any l p c W h (by omega)
      rw [tr_yes ho, (smp_yes ho).2] at h2
      exact trq_of (by rw [trips_length, hm]) h2
    have HRL : Hid ((red l).length = m) := Lib.hid (by rw [red_length, hm])
    have HTL : Hid ((trips l).length = m) := Lib.hid (by rw [trips_length, hm])
    have HRB : Hid (∀ i, i < m → 1 ≤ (red l).getD i 0 ∧ (red l).getD i 0 ≤ many l) := Lib.hid (fun i hi => by
      rw [gd (by rw [HRL.out]; exact hi)]
      exact red_bound (List.getElem_mem _))
    have HRT : Hid (∀ i j, i < m → j < m → lexL ((trips l).getD i []) ((trips l).getD j []) = decide ((red l).getD i 0 < (red l).getD j 0)) := Lib.hid (fun i j hi hj => by
      rw [hm] at hi hj
      rw [trips_at l i hi, trips_at l j hj, red_at l i hi, red_at l j hj]
      exact (nameOf_iff (trips_mem hi) (trips_mem hj)).symm)
    have HRA : Hid (∀ x, 1 ≤ x → x ≤ many l → ∃ i, i < m ∧ (red l).getD i 0 = x) := Lib.hid (fun x h1 h2 => by
      obtain ⟨i, hi, e⟩ := List.getElem_of_mem (red_all h1 h2)
      exact ⟨i, by rw [← HRL.out]; exact hi, by rw [gd hi]; exact e⟩)
    have hmm : many l ≤ m := by
      rw [many_is]
      have h1 : (firsts (trips l)).length ≤ (trips l).length := by
        have := List.length_filter_le (first (trips l)) (List.range (trips l).length)
        rw [List.length_range] at this
        exact this
      rw [HTL.out] at h1
      exact h1
    obtain ⟨n, hn⟩ : ∃ n, n = l.length := ⟨_, rfl⟩
    obtain ⟨M, hM⟩ : ∃ M, M = many l := ⟨_, rfl⟩
    rw [← hn] at CR0 CT0 hm2 hc ⊢
    rw [← hM] at CR0 HRB HRA hmm
    have CR := Lib.hid CR0; have CT := Lib.hid CT0
    have P := Lib.hid hp
    have t1 : decide ((300 : Int) < (n : Int)) = false := decide_eq_false (by omega)
    have t3 : decide (300 < n) = false := decide_eq_false hc
    have hm3 : m ≤ 201 := by omega
    have ewM : IntKind.u64.wrap (M : Int) = (M : Int) := IntWalk.u64_in _ (by omega)
    have hq : Hid (decide ((m : Int) ≤ 2 * (n : Int) / 3 + 1) = true) := Lib.hid (decide_eq_true (by omega))
    have hn3 : n ≤ 300 := by omega
    clear CR0 CT0 hp hn hM hm ho hm2 hc
    have B : Hid (Below w.heap.size w w) := Lib.hid (Below.refl _ _)
    go_enter Try.func5, Try.ntmps5
    go_wp2_with fail
    refine (CL.out _).mono ?_
    rintro e w0 ⟨rfl, b⟩
    replace P := Lib.hid (P.out.below b)
    replace B := Lib.hid (B.out.trans (b.mono B.out.size))
    clear b
    go_wp2_with fail
    refine (CR.out _ P.out).mono ?_
    rintro e w1 ⟨qa, ca, rfl, _, ra, b⟩
    replace P := Lib.hid (P.out.below b)
    replace B := Lib.hid (B.out.trans (b.mono B.out.size))
    have RA := Lib.hid ra
    clear b ra
    go_wp2_with fail
    refine (CT.out _ P.out).mono ?_
    rintro e w2 ⟨qb, cb, rfl, _, rb, b⟩
    replace P := Lib.hid (P.out.below b)
    replace RA := Lib.hid (RA.out.below b)
    replace B := Lib.hid (B.out.trans (b.mono B.out.size))
    have RB := Lib.hid rb
    clear b rb
    obtain ⟨W1, hW1⟩ : ∃ W1, W1 = w2 := ⟨_, rfl⟩
    rw [← hW1] at P RA RB B
    rw [← hW1]
    clear hW1 P
    have EM : Hid ((M : Int) + 1 = ((M + 1 : Nat) : Int)) := Lib.hid (by omega)
    go_wp2_with (at_make; refine wpList_make_full _ rfl _ _ 40 rfl W1.heap.size 4 ti1 (.bool false) 1 Try.underlying40 hi1 hy0 hy1 .i64 .i64 (↑M + 1) (↑M + 1) (M + 1) rfl rfl EM.out EM.out ?c4 ?c5 ?c6 ?_)
    case c4 => rw [hy2]; omega
    case c5 => unfold maxLen; omega
    case c6 => omega
    intro w3 hown3 hgr3
    obtain ⟨g, hg⟩ : ∃ g, g = W1.heap.size := ⟨_, rfl⟩
    have b3 : Below g W1 w3 := by rw [hg]; exact (Below.refl _ W1).grown hgr3 (Nat.le_refl _) (by simp)
    rw [toList_madeCells_one, ← hg] at hown3
    rw [← hg]
    have A3 : Hid (Arr w3 g 4 g (M + 1) (bls (List.replicate (M + 1) false))) := Lib.hid (by rw [← bls_zeros]; exact hown3)
    have B3 := Lib.hid b3
    have HG := Lib.hid hg
    clear b3 hown3 hgr3 hg
    go_wp2_with fail
    go_loopw [43] (fun i wr => ∃ (k : Nat) (H : List Bool), k ≤ m ∧ i = .int .i64 k ∧ Hd (red l) k H ∧ Arr wr g 4 g (M + 1) (bls H) ∧ Below g W1 wr) (fun i _ => m - (intOf i).toNat)
    case atStart => exact ⟨0, _, by omega, rfl, fun i hi => by omega, A3.out, B3.out⟩
    case round =>
      obtain ⟨k, H, hk, rfl, hh, ha, hb⟩ := hrel
      have HH := Lib.hid hh; have HA := Lib.hid ha; have HB := Lib.hid hb
      have R2 : Hid (Rd wr qa (nums (red l))) := Lib.hid (RA.out.below (by rw [← HG.out]; exact hb))
      clear hh ha hb
      by_cases hlt : k < m
      · obtain ⟨a, rfl, ca1⟩ := rd_num R2.out k (by rw [HRL.out]; exact hlt)
        obtain ⟨x, hx⟩ : ∃ x, x = (red l).getD k 0 := ⟨_, rfl⟩
        rw [← hx] at ca1
        have hxb := HRB.out k hlt
        rw [← hx] at hxb
        have k0 : (0 : Int) ≤ (k : Int) := by omega
        have x1 : decide ((x : Int) < 1) = false := decide_eq_false (by omega)
        have x2 : decide (x < 1) = false := decide_eq_false (by omega)
        have x3 : decide ((M : Int) < (x : Int)) = false := decide_eq_false (by omega)
        have x4 : decide (M < x) = false := decide_eq_false (by omega)
        have x5 : (0 : Int) ≤ (x : Int) := by omega
        have x6 : (x : Int) < (M : Int) + 1 := by omega
        have x7 : x < M + 1 := by omega
        have hHl : H.length = M + 1 := by have := HA.out.len; rwa [bls_length] at this
        have HS : Hid (Hd (red l) (k + 1) (H.set x true)) := Lib.hid (by
          have := hd_set HH.out (by rw [← hx, hHl]; exact x7)
          rwa [← hx] at this)
        have S1 := HA.out.set x (.bool true)
        rw [bls_set] at S1
        have HS1 := Lib.hid S1
        have HB1 := Lib.hid (HA.out.put HB.out (Nat.le_refl _) x (.bool true))
        have cH := HA.out.cell x7
        have fH := HA.out.free x
        obtain ⟨ov, hov⟩ : ∃ ov, ov = (bls H).getD x (.bool false) := ⟨_, rfl⟩
        rw [← hov] at cH
        have HX := Lib.hid hx
        have tk : decide ((k : Int) < (m : Int)) = true := decide_eq_true (by omega)
        have tk2 : decide (k < m) = true := decide_eq_true hlt
        clear hx hxb hHl S1 hov
        go_wp2_with fail
        obtain ⟨W4, hW4⟩ : ∃ W4, W4 = wr.setCell ⟨g, x, none⟩ (.bool true) := ⟨_, rfl⟩
        rw [← hW4] at HS1 HB1 ⊢
        clear hW4 cH fH ca1
        have R4 : Hid (Rd W4 (some a) (nums (red l))) := Lib.hid (RA.out.below (by rw [← HG.out]; exact HB1.out))
        have T4 : Hid (RecsAt W4 qb (trips l)) := Lib.hid (RB.out.below (by rw [← HG.out]; exact HB1.out))
        go_loopw [61] (fun i wq => ∃ j z : Nat, j ≤ m ∧ i = .int .i64 j ∧ wq = W4.drewN z) (fun i _ => m - (intOf i).toNat)
        case atStart => exact ⟨0, 0, by omega, rfl, rfl⟩
        case round =>
          obtain ⟨j, z, hj, rfl, hw⟩ := hrel
          have HW := Lib.hid hw
          have R5 : Hid (Rd wr (some a) (nums (red l))) := Lib.hid (by rw [hw]; exact R4.out.drewN z)
          have T5 : Hid (RecsAt wr qb (trips l)) := Lib.hid (by rw [hw]; exact T4.out.drewN z)
          clear hw
          by_cases hjl : j < m
          · obtain ⟨a1, hbb, ci⟩ := rd_num R5.out k (by rw [HRL.out]; exact hlt)
            cases hbb
            obtain ⟨a2, hbb, cj⟩ := rd_num R5.out j (by rw [HRL.out]; exact hjl)
            cases hbb
            obtain ⟨at_, qi, cci, rfl, _, li, ri, ni⟩ := T5.out k (by rw [HTL.out]; exact hlt)
            obtain ⟨at2, qj, ccj, hbb, _, lj, rj, nj⟩ := T5.out j (by rw [HTL.out]; exact hjl)
            cases hbb
            obtain ⟨xi, hxi⟩ : ∃ xi, xi = (trips l).getD k [] := ⟨_, rfl⟩
            obtain ⟨xj, hxj⟩ : ∃ xj, xj = (trips l).getD j [] := ⟨_, rfl⟩
            have hrt := HRT.out k j hlt hjl
            rw [← hxi, ← hxj] at hrt
            rw [← hxi] at li ri ni
            rw [← hxj] at lj rj nj
            obtain ⟨y, hy⟩ : ∃ y, y = (red l).getD j 0 := ⟨_, rfl⟩
            rw [← HX.out] at ci
            rw [← hy] at cj
            rw [← HX.out, ← hy] at hrt
            have HC4 : Hid (∀ z, Calls Try.prog 22 #[.slice qi xi.length cci, .slice qj xj.length ccj] (wr.drewN z) fun e w' => e = .returned (.bool (decide (x < y))) ∧ ∃ n, w' = wr.drewN n) := Lib.hid (fun z4 => by
              rw [← hrt]
              exact (less_any xi xj qi qj cci ccj (wr.drewN z4) (ri.drewN z4) (rj.drewN z4) ni nj).mono fun e w' ⟨h1, h2⟩ => ⟨h1, z4, h2.symm⟩)
            obtain ⟨il, hil⟩ : ∃ il, il = xi.length := ⟨_, rfl⟩
            obtain ⟨jl, hjl2⟩ : ∃ jl, jl = xj.length := ⟨_, rfl⟩
            rw [← hil] at li HC4
            rw [← hjl2] at lj HC4
            have j0 : (0 : Int) ≤ (j : Int) := by omega
            have k1 : (k : Int) < (m : Int) := by omega
            have j1 : (j : Int) < (m : Int) := by omega
            obtain ⟨b, hb⟩ : ∃ b, b = decide (x < y) := ⟨_, rfl⟩
            have eb : decide (x < y) = b := hb.symm
            have eb2 : decide ((x : Int) < (y : Int)) = b := by rw [hb]; simp
            rw [← hb] at HC4
            have ebb : (b != b) = false := by simp
            clear hxi hxj hrt ri rj ni nj hy hil hjl2 hb
            go_wp2_with fail
            go_quiet ((go_at_call 22; exact HC4.out _))
            go_wp2_with fail
            go_roundw
            case rel => exact ⟨j + 1, _, by omega, by go_num, by rw [HW.out, World.drewN_drewN]⟩
            case measure => simp [intOf]; omega
          · obtain rfl : j = m := by omega
            have F1 : Hid (Arr wr g 4 g (M + 1) (bls (H.set x true))) := Lib.hid (by rw [HW.out]; exact HS1.out.drewN z)
            have F2 : Hid (Below g W1 wr) := Lib.hid (by rw [HW.out]; exact below_drewN HB1.out z)
            go_wp2_with fail
            go_roundw
            case rel => exact ⟨k + 1, _, by omega, by go_num, HS.out, F1.out, F2.out⟩
            case measure => simp [intOf]; omega
      · obtain rfl : k = m := by omega
        have HHX : Hid (∀ x, 1 ≤ x → x ≤ M → H.getD x false = true) := Lib.hid (fun x h1 h2 => by
          obtain ⟨i, hi, e⟩ := HRA.out x h1 h2
          rw [← e]; exact HH.out i hi)
        have B9 : Hid (Below w.heap.size w wr) := Lib.hid (B.out.trans (HB.out.mono (by rw [HG.out]; exact B.out.size)))
        go_wp2_with fail
        obtain ⟨W5, hW5⟩ : ∃ W5, W5 = wr := ⟨_, rfl⟩
        have HW5 := Lib.hid hW5
        go_loopw [12] (fun i wq => ∃ x : Nat, 1 ≤ x ∧ x ≤ M + 1 ∧ i = .int .i64 x ∧ wq = W5) (fun i _ => M + 1 - (intOf i).toNat)
        case atStart => exact ⟨1, by omega, by omega, rfl, hW5.symm⟩
        case round =>
          obtain ⟨x, hx1, hx2, rfl, hw⟩ := hrel
          have A6 : Hid (Arr wr g 4 g (M + 1) (bls H)) := Lib.hid (by rw [hw, HW5.out]; exact HA.out)
          have B6 : Hid (Below w.heap.size w wr) := Lib.hid (by rw [hw, HW5.out]; exact B9.out)
          have HWW := Lib.hid hw
          clear hw
          by_cases hxl : x ≤ M
          · have cx := A6.out.cell (k := x) (by omega)
            rw [bls_getD, HHX.out x hx1 hxl] at cx
            have x0 : (0 : Int) ≤ (x : Int) := by omega
            have x1 : decide ((x : Int) ≤ (M : Int)) = true := decide_eq_true (by omega)
            have x2 : decide (x ≤ M) = true := decide_eq_true hxl
            have x3 : (x : Int) < (M : Int) + 1 := by omega
            go_wp2_with fail
            go_roundw
            case rel => exact ⟨x + 1, by omega, by omega, by go_num, HWW.out⟩
            case measure => simp [intOf]; omega
          · have x1 : decide ((x : Int) ≤ (M : Int)) = false := decide_eq_false (by omega)
            have x2 : decide (x ≤ M) = false := decide_eq_false hxl
            have hqq := hq.out
            have n0 : (0 : Int) ≤ (n : Int) := by omega
            go_wp2_with fail
            go_ret
            exact ⟨rfl, B6.out⟩
end Go.Proofs.Ytonlbcibfbbpgaa.Sk
