/- The walks of the document's Reduce, Ends, Expand. -/
import Derived.Test.YtonlbcibfbbpgaaSkB
import Derived.Test.YtonlbcibfbbpgaaOrdEnds
import Derived.IntWalk
namespace Go.Proofs.Ytonlbcibfbbpgaa.Sk
open Go.RowKit Go.Lib Rw Nm Ls Od

/-- the reduced list, how many names there are, and an error's number -/
def RdP (W : World) (L : List Nat) (m : Nat) (r : Int) (e : Ending) (w' : World) : Prop := ∃ (q : Option Addr) (c : Nat), e = .returned (.tuple #[.slice q L.length c, .int .i64 (m : Nat), .int .i64 r]) ∧ L.length ≤ c ∧ Rd w' q (nums L) ∧ Below W.heap.size W w'
theorem rd_mk {W w' : World} {L : List Nat} {m : Nat} {r : Int} {n : Nat} {q : Option Addr} {c : Nat} (hL : L.length = n) (hc : n ≤ c) (hr : Rd w' q (nums L)) (hb : Below W.heap.size W w') : RdP W L m r (.returned (.tuple #[.slice q n c, .int .i64 (m : Nat), .int .i64 r])) w' := by
  subst hL; exact ⟨q, c, rfl, hc, hr, hb⟩
def rdL (l : List Nat) : List Nat := if okL l = true then red l else []
def rdM (l : List Nat) : Nat := if okL l = true then many l else 0
theorem rd_no {l : List Nat} (h : okL l = false) : rdL l = [] ∧ rdM l = 0 := by unfold rdL rdM; rw [h]; exact ⟨rfl, rfl⟩
theorem rd_yes {l : List Nat} (h : okL l = true) : rdL l = red l ∧ rdM l = many l := by unfold rdL rdM; rw [h]; exact ⟨rfl, rfl⟩
/-- rows, how many a number -/
def TrN (W : World) (n : Nat) (M : List (List Nat)) (e : Ending) (w' : World) : Prop := ∃ (q : Option Addr) (c : Nat), e = .returned (.tuple #[.slice q n c, .int .i64 0]) ∧ n ≤ c ∧ RecsAt w' q M ∧ Below W.heap.size W w'
/-- the reduced list, how many a number -/
def RdN (W : World) (n : Nat) (L : List Nat) (m : Nat) (e : Ending) (w' : World) : Prop := ∃ (q : Option Addr) (c : Nat), e = .returned (.tuple #[.slice q n c, .int .i64 (m : Nat), .int .i64 0]) ∧ n ≤ c ∧ Rd w' q (nums L) ∧ Below W.heap.size W w'
/-- counted so far -/
def cnt (T : List (List Nat)) (x : List Nat) (j : Nat) : Nat := 1 + (List.range j).countP fun j => first T j && lexL (T.getD j []) x
theorem cnt_succ (T : List (List Nat)) (x : List Nat) (j : Nat) : cnt T x (j + 1) = cnt T x j + if (first T j && lexL (T.getD j []) x) = true then 1 else 0 := by
  unfold cnt
  rw [List.range_succ, List.countP_append]
  simp only [List.countP_cons, List.countP_nil]
  omega
theorem cnt_le (T : List (List Nat)) (x : List Nat) (j : Nat) : cnt T x j ≤ j + 1 := by
  unfold cnt
  have := List.countP_le_length (p := fun j => first T j && lexL (T.getD j []) x) (l := List.range j)
  rw [List.length_range] at this
  omega
def fst (T : List (List Nat)) (y : List Nat) (k : Nat) : Bool := decide (y ∉ T.take k)
theorem fst_succ (T : List (List Nat)) (y : List Nat) (k : Nat) (h : k < T.length) : fst T y (k + 1) = (fst T y k && !decide (y = T.getD k [])) := by
  have e : (y ∉ T.take (k + 1)) ↔ (y ∉ T.take k ∧ y ≠ T[k]) := by
    rw [List.take_succ_eq_append_getElem h, List.mem_append, List.mem_singleton]
    constructor
    · intro hn; exact ⟨fun h1 => hn (.inl h1), fun h1 => hn (.inr h1)⟩
    · rintro ⟨h1, h2⟩ (h3 | h3)
      · exact h1 h3
      · exact h2 h3
  have g : T.getD k [] = T[k] := by rw [List.getD_eq_getElem?_getD, List.getElem?_eq_getElem h, Option.getD_some]
  unfold fst
  rw [g, Bool.eq_iff_iff]
  simp only [decide_eq_true_eq, Bool.and_eq_true, Bool.not_eq_true', decide_eq_false_iff_not]
  exact e
theorem fst_zero (T : List (List Nat)) (y : List Nat) : fst T y 0 = true := by simp [fst]
def mx (L : List Nat) (k : Nat) : Nat := (L.take k).foldl max 0
theorem mx_succ (L : List Nat) (k : Nat) (h : k < L.length) : mx L (k + 1) = max (mx L k) (L.getD k 0) := by
  unfold mx
  rw [List.take_succ_eq_append_getElem h, List.foldl_append, gd h]; rfl
/-- so many names told -/
def ReR (l : List Nat) (hB n : Nat) (W1 : World) (v u i : Value) (wr : World) : Prop := ∃ (k : Nat), k ≤ n ∧ i = .int .i64 k ∧ u = .int .u64 (mx (red l) k : Nat) ∧ wr.ownsRow hB 41 1 v k (nums ((red l).take k)) ∧ Below hB W1 wr
def edL (l : List Nat) : List Nat := if okL l = true then ends l else []
theorem ed_yes {l : List Nat} (h : okL l = true) : edL l = ends l := if_pos h
theorem ed_no {l : List Nat} (h : okL l = false) : edL l = [] := if_neg (by rw [h]; simp)
theorem rends13_any (l : List Nat) (p : Option Addr) (c : Nat) (w : World) (hp : Rd w p (nums l)) (hlc : l.length ≤ c) (hl : l.length ≤ 17592186044416) :
    Calls Try.prog 19 #[.slice p l.length c] w (PL w (edL l) (smpE l)) := by
  have HC := Lib.hid (rchecks_any l p c w hp hl)
  rcases chk_cases l with ⟨ho, hk⟩ | ⟨ho, hk⟩
  · have hE := Lib.hid (rends_any l p c w hp hlc (ok_len ho))
    rw [ed_yes ho, (smp_yes ho).2]
    rw [hk] at HC
    clear hk hp hl hlc
    obtain ⟨n, hn⟩ : ∃ n, n = l.length := ⟨_, rfl⟩
    rw [← hn] at HC hE ⊢
    clear hn ho
    go_enter Try.func19, Try.ntmps19
    go_wp2_with fail
    refine HC.out.mono ?_
    rintro e w' ⟨rfl, rfl⟩
    go_wp2_with fail
    refine hE.out.mono ?_
    rintro e w1 ⟨q, c1, rfl, hc, hr, _, _, hb⟩
    have HR := Lib.hid hr; have HB := Lib.hid hb
    clear hr hb
    go_wp2_with fail
    refine bodyPost_ret (v := .tuple #[.slice q (ends l).length c1, .int .i64 0]) (by simp [results, Try.results19, go_sem]) rfl ?_
    exact pl_mk rfl hc HR.out HB.out
  · rw [ed_no ho, (smp_no ho).2]
    rw [hk] at HC
    clear hk hp hl hlc
    obtain ⟨n, hn⟩ : ∃ n, n = l.length := ⟨_, rfl⟩
    rw [← hn] at HC ⊢
    clear hn ho
    go_enter Try.func19, Try.ntmps19
    go_wp2_with fail
    refine HC.out.mono ?_
    rintro e w' ⟨rfl, rfl⟩
    go_wp2_with fail
    refine bodyPost_ret (v := .tuple #[.slice none 0 0, .int .i64 1]) (by simp [results, Try.results19, go_sem]) rfl ?_
    exact pl_mk rfl (Nat.le_refl _) (Rd.nil _ _) (Below.refl _ _)
set_option maxHeartbeats 8000000 in
set_option maxRecDepth 100000 in
theorem rreduce_any (l : List Nat) (p : Option Addr) (c : Nat) (w : World) (hp : Rd w p (nums l)) (hl : l.length ≤ 17592186044416) :
    Calls Try.prog 12 #[.slice p l.length c] w (RdP w (rdL l) (rdM l) (smpE l)) := by
  obtain ⟨ti0, hi0, hz0, hz1, hz2⟩ := info_parts info_u64
  have HC := Lib.hid (rtriples_any l p c w hp hl)
  cases ho : okL l with
  | false =>
    have E := Lib.hid (rd_no ho)
    rw [tr_no ho, (smp_no ho).2] at HC
    rw [(smp_no ho).2]
    obtain ⟨n, hn⟩ : ∃ n, n = l.length := ⟨_, rfl⟩
    rw [← hn] at HC ⊢
    clear hn ho hp hl
    go_enter Try.func12, Try.ntmps12
    go_wp2_with fail
    refine HC.out.mono ?_
    rintro e w1 ⟨q, c1, rfl, hc, hr, hb⟩
    have HB := Lib.hid hb
    clear hr hb
    go_wp2_with fail
    refine bodyPost_ret (v := .tuple #[.slice none 0 0, .int .i64 0, .int .i64 1]) (by simp [results, Try.results12, go_sem]) rfl ?_
    rw [E.out.1, E.out.2]
    exact rd_mk (m := 0) rfl (Nat.le_refl _) (Rd.nil _ _) HB.out
  | true =>
    have E := Lib.hid (rd_yes ho)
    have h4 := ok_len ho
    rw [tr_yes ho, (smp_yes ho).2] at HC
    rw [(smp_yes ho).2]
    obtain ⟨T, hT⟩ : ∃ T, T = trips l := ⟨_, rfl⟩
    obtain ⟨m, hm⟩ : ∃ m, m = T.length := ⟨_, rfl⟩
    have hmm : m = mm l.length := by rw [hm, hT, trips_length]
    have HMM : m ≤ 10000 := by rw [hmm]; have := mm_le l.length; omega
    have HRL : Hid ((red l).length = m) := Lib.hid (by rw [red_length, hmm])
    have HRA : Hid (∀ k, k < m → (red l).getD k 0 = cnt T (T.getD k []) m) := Lib.hid (fun k hk => by
      have h1 := red_at l k (by rw [← hmm]; exact hk)
      have h2 := trips_at l k (by rw [← hmm]; exact hk)
      rw [h1, ← h2, ← hT]
      unfold nameOf cnt
      rw [← hm])
    rw [← hT] at HC
    have HC2 : Hid (Calls Try.prog 10 #[.slice p l.length c] w (fun e w' => TrN w m T e w')) := Lib.hid (HC.out.mono fun _ _ ⟨q, c, e, h1, h2, h3⟩ => ⟨q, c, by rw [e, hm], by rw [hm]; exact h1, h2, h3⟩)
    have HTM := Lib.hid hm
    have HMN : Hid (many l = mx (red l) m) := Lib.hid (by unfold many mx; rw [List.take_of_length_le (by rw [HRL.out]; exact Nat.le_refl _)])
    obtain ⟨n, hn⟩ : ∃ n, n = l.length := ⟨_, rfl⟩
    rw [← hn] at HC2 h4 ⊢
    clear hn ho hp hl HC hT hm hmm
    go_enter Try.func12, Try.ntmps12
    go_wp2_with fail
    refine HC2.out.mono ?_
    rintro e w1 ⟨q, c1, rfl, hc, hr, hb⟩
    have HR := Lib.hid hr; have HB := Lib.hid hb
    obtain ⟨hB, hhB⟩ : ∃ hB, hB = w1.heap.size := ⟨_, rfl⟩
    have HH := Lib.hid hhB
    clear hr hb hhB
    go_wp2_with fail
    go_loopw [7, 8, 27] (fun v u i wr => ReR l hB m w1 v u i wr) (fun _ _ i _ => m - (intOf i).toNat)
    case atStart => exact ⟨0, by omega, rfl, rfl, World.ownsRow_nil _ _ _ _, Below.refl _ _⟩
    case round =>
      obtain ⟨i, hi, rfl, rfl, ho, hb⟩ := hrel
      have HO := Lib.hid ho; have HB2 := Lib.hid hb
      have hsz := hb.size
      have hsz2 : hB ≤ wr.heap.size := by rw [HH.out]; exact hsz
      have R2 : Hid (RecsAt wr q T) := Lib.hid (HR.out.below (by rw [← HH.out]; exact hb))
      clear ho hb hsz
      by_cases hlt : i < m
      · obtain ⟨ad, qx, cx, rfl, _, lx, rx, nx⟩ := R2.out i (by rw [← HTM.out]; exact hlt)
        obtain ⟨x, hx⟩ : ∃ x, x = T.getD i [] := ⟨_, rfl⟩
        rw [← hx] at lx rx nx
        have HX := Lib.hid hx; have RX := Lib.hid rx
        have HRE := Lib.hid (HRA.out i hlt)
        rw [← hx] at HRE
        obtain ⟨W2, hW2⟩ : ∃ W2, W2 = wr := ⟨_, rfl⟩
        have HW2 := Lib.hid hW2
        obtain ⟨nxl, hnxl⟩ : ∃ nxl, nxl = x.length := ⟨_, rfl⟩
        have HNX := Lib.hid hnxl
        rw [← hnxl] at lx nx
        have i0 : (0 : Int) ≤ (i : Int) := by omega
        have ti : decide ((i : Int) < (m : Int)) = true := decide_eq_true (by omega)
        have ti2 : decide (i < m) = true := decide_eq_true hlt
        clear hx rx hnxl
        go_wp2_with fail
        go_loopw [11, 34] (fun v j wq => ∃ jj z : Nat, jj ≤ m ∧ j = .int .i64 jj ∧ v = .int .u64 (cnt T x jj : Nat) ∧ wq = W2.drewN z) (fun _ j _ => m - (intOf j).toNat)
        case atStart => exact ⟨0, 0, by omega, rfl, rfl, hW2.symm⟩
        case round =>
          obtain ⟨j, z, hj, rfl, rfl, hw⟩ := hrel
          have HW := Lib.hid hw
          have R3 : Hid (RecsAt wr (some ad) T) := Lib.hid (by rw [hw, HW2.out]; exact R2.out.drewN z)
          have RX3 : Hid (Rd wr qx (nums x)) := Lib.hid (by rw [hw, HW2.out]; exact RX.out.drewN z)
          have lx3 : wr.cell? (ad.add i) = some (.slice qx nxl cx) := by rw [hw, HW2.out]; exact lx
          have B3 : Hid (∀ z, Below hB w1 (wr.drewN z)) := Lib.hid (fun z2 => by rw [hw, HW2.out]; exact below_drewN (below_drewN HB2.out z) z2)
          clear hw
          by_cases hjl : j < m
          · obtain ⟨ad', qy, cy, hbb, _, ly, ry, ny⟩ := R3.out j (by rw [← HTM.out]; exact hjl)
            cases hbb
            obtain ⟨y, hy⟩ : ∃ y, y = T.getD j [] := ⟨_, rfl⟩
            rw [← hy] at ly ry ny
            have HY := Lib.hid hy; have RY := Lib.hid ry
            have HFJ : Hid (first T j = fst T y j) := Lib.hid (by unfold first fst; rw [← hy])
            obtain ⟨nyl, hnyl⟩ : ∃ nyl, nyl = y.length := ⟨_, rfl⟩
            have HNY := Lib.hid hnyl
            rw [← hnyl] at ly ny
            obtain ⟨W3, hW3⟩ : ∃ W3, W3 = wr := ⟨_, rfl⟩
            have HW3 := Lib.hid hW3
            have j0 : (0 : Int) ≤ (j : Int) := by omega
            have tj : decide ((j : Int) < (m : Int)) = true := decide_eq_true (by omega)
            have tj2 : decide (j < m) = true := decide_eq_true hjl
            have jc : j ≤ c1 := by omega
            have hcs := cnt_succ T x j
            rw [← hy, HFJ.out] at hcs
            have HCS := Lib.hid hcs
            have HCL := Lib.hid (cnt_le T x j)
            clear hy ry hnyl hcs
            go_wp2_with fail
            go_loopw [14, 43] (fun v k wq => ∃ kk z : Nat, kk ≤ j ∧ k = .int .i64 kk ∧ v = .bool (fst T y kk) ∧ wq = W3.drewN z) (fun _ k _ => j - (intOf k).toNat)
            case atStart => exact ⟨0, 0, by omega, rfl, by rw [fst_zero], hW3.symm⟩
            case round =>
              obtain ⟨k, z3, hk, rfl, rfl, hw⟩ := hrel
              have HWW := Lib.hid hw
              have R4 : Hid (RecsAt wr (some ad) T) := Lib.hid (by rw [hw, HW3.out]; exact R3.out.drewN z3)
              have RY4 : Hid (Rd wr qy (nums y)) := Lib.hid (by rw [hw, HW3.out]; exact RY.out.drewN z3)
              have RX4 : Hid (Rd wr qx (nums x)) := Lib.hid (by rw [hw, HW3.out]; exact RX3.out.drewN z3)
              have lx4 : wr.cell? (ad.add i) = some (.slice qx nxl cx) := by rw [hw, HW3.out]; exact lx3
              have HWX : Hid (∀ z4, ∃ z5, wr.drewN z4 = W2.drewN z5) := Lib.hid (fun z4 => ⟨z + (z3 + z4), by rw [hw, HW3.out, HW.out, World.drewN_drewN, World.drewN_drewN]⟩)
              clear hw
              by_cases hkl : k < j
              · obtain ⟨ad'', qz, cz, hbb, _, lz, rz, nz⟩ := R4.out k (by rw [← HTM.out]; omega)
                cases hbb
                obtain ⟨v, hv⟩ : ∃ v, v = T.getD k [] := ⟨_, rfl⟩
                rw [← hv] at lz rz nz
                have hfs := fst_succ T y k (by rw [← HTM.out]; omega)
                rw [← hv] at hfs
                have HC4 : Hid (∀ z, Calls Try.prog 15 #[.slice qy nyl cy, .slice qz v.length cz] (wr.drewN z) fun e w' => e = .returned (.bool (decide (y = v))) ∧ ∃ n, w' = (wr.drewN z).drewN n) := Lib.hid (fun z4 => by
                  rw [HNY.out]
                  exact sameOne_any y v qy qz cy cz (wr.drewN z4) (RY4.out.drewN z4) (rz.drewN z4) (by rw [← HNY.out]; exact ny) nz)
                obtain ⟨b, hb⟩ : ∃ b, b = decide (y = v) := ⟨_, rfl⟩
                rw [← hb] at hfs HC4
                have HFS := Lib.hid hfs
                obtain ⟨vl, hvl⟩ : ∃ vl, vl = v.length := ⟨_, rfl⟩
                rw [← hvl] at lz nz HC4
                have k0 : (0 : Int) ≤ (k : Int) := by omega
                clear hv hfs hb hvl rz
                cases hf : fst T y k with
                | false =>
                  have HF2 : Hid (fst T y (k + 1) = false) := Lib.hid (by rw [HFS.out, hf]; rfl)
                  clear hf
                  go_wp2_with fail
                  go_roundw
                  case rel => exact ⟨k + 1, z3, by omega, by go_num, by rw [HF2.out], HWW.out⟩
                  case measure => simp [intOf]; omega
                | true =>
                  have HF2 : Hid (fst T y (k + 1) = !b) := Lib.hid (by rw [HFS.out, hf]; simp)
                  clear hf
                  go_wp2_with fail
                  refine (HC4.out 0).mono ?_
                  rintro e w' ⟨rfl, n5, rfl⟩
                  go_wp2_with fail
                  go_roundw
                  case rel => exact ⟨k + 1, z3 + n5, by omega, by go_num, by rw [HF2.out], by rw [HWW.out, World.drewN_drewN]⟩
                  case measure => simp [intOf]; omega
              · obtain rfl : k = j := by omega
                have HC5 : Hid (∀ z, Calls Try.prog 29 #[.slice qy nyl cy, .slice qx nxl cx] (wr.drewN z) fun e w' => e = .returned (.bool (lexL y x)) ∧ ∃ n, w' = (wr.drewN z).drewN n) := Lib.hid (fun z4 => by
                  rw [HNY.out, HNX.out]
                  exact rless_any y x qy qx cy cx (wr.drewN z4) (RY4.out.drewN z4) (RX4.out.drewN z4) (by rw [← HNY.out]; exact ny) (by rw [← HNX.out]; exact nx))
                obtain ⟨b, hb⟩ : ∃ b, b = lexL y x := ⟨_, rfl⟩
                rw [← hb] at HC5 HCS
                have i0' : (i : Int) < (m : Int) := by omega
                obtain ⟨cc, hcc⟩ : ∃ cc, cc = cnt T x k := ⟨_, rfl⟩
                rw [← hcc] at HCS HCL ⊢
                have hccl : cc ≤ 10001 := by have := HCL.out; omega
                clear hb hcc
                cases hf : fst T y k with
                | false =>
                  have HF2 : Hid (cnt T x (k + 1) = cc) := Lib.hid (by rw [HCS.out, hf]; simp)
                  clear hf
                  go_wp2_with fail
                  obtain ⟨z5, hz5⟩ := HWX.out 0
                  go_roundw
                  case rel => exact ⟨k + 1, z5, by omega, by go_num, by rw [HF2.out], hz5⟩
                  case measure => simp [intOf]; omega
                | true =>
                  cases b with
                  | false =>
                    have HF2 : Hid (cnt T x (k + 1) = cc) := Lib.hid (by rw [HCS.out, hf]; simp)
                    clear hf
                    go_wp2_with fail
                    refine (HC5.out 0).mono ?_
                    rintro e w' ⟨rfl, n5, rfl⟩
                    go_wp2_with fail
                    obtain ⟨z5, hz5⟩ := HWX.out n5
                    go_roundw
                    case rel => exact ⟨k + 1, z5, by omega, by go_num, by rw [HF2.out], hz5⟩
                    case measure => simp [intOf]; omega
                  | true =>
                    have HF2 : Hid (cnt T x (k + 1) = cc + 1) := Lib.hid (by rw [HCS.out, hf]; simp)
                    clear hf
                    go_wp2_with fail
                    refine (HC5.out 0).mono ?_
                    rintro e w' ⟨rfl, n5, rfl⟩
                    go_wp2_with fail
                    obtain ⟨z5, hz5⟩ := HWX.out n5
                    go_roundw
                    case rel => exact ⟨k + 1, z5, by omega, by go_num, by rw [HF2.out]; go_num, hz5⟩
                    case measure => simp [intOf]; omega
          · obtain rfl : j = m := by omega
            rw [← HRE.out]
            have hts : (red l).take (i + 1) = (red l).take i ++ [(red l).getD i 0] := by
              have h1 : i < (red l).length := by rw [HRL.out]; exact hlt
              rw [List.take_succ_eq_append_getElem h1, gd h1]
            have hms := mx_succ (red l) i (by rw [HRL.out]; exact hlt)
            have hcl := cnt_le T x j
            rw [← HRE.out] at hcl
            obtain ⟨u, hu⟩ : ∃ u, u = (red l).getD i 0 := ⟨_, rfl⟩
            obtain ⟨M, hM⟩ : ∃ M, M = mx (red l) i := ⟨_, rfl⟩
            rw [← hu] at hts hms hcl ⊢
            rw [← hM] at hms ⊢
            have HTS : Hid (nums ((red l).take i) ++ [.int .u64 (u : Int)] = nums ((red l).take (i + 1))) := Lib.hid (by rw [hts, nums_snoc])
            have O3 : Hid (wr.ownsRow hB 41 1 _ i (nums ((red l).take i))) := Lib.hid (own_below (w' := wr) HO.out (by rw [HW.out, HW2.out]; exact below_drewN (Below.refl _ _) z))
            have hB3 : Below hB w1 wr := B3.out 0
            have HB3 : Hid (Below hB w1 wr) := Lib.hid hB3
            have hsz3 : hB ≤ wr.heap.size := by have := hB3.size; have := HH.out; omega
            have hk3 : i ≤ 1000000000 := by omega
            clear hts hcl hu hM hB3
            by_cases hgt : M < u
            · have HMS : Hid (mx (red l) (i + 1) = u) := Lib.hid (by rw [hms]; omega)
              have g1 : decide ((M : Int) < (u : Int)) = true := decide_eq_true (by omega)
              have g2 : decide (M < u) = true := decide_eq_true hgt
              clear hms hgt
              go_wp2_with (at_builtin; refine Rw.push rfl _ _ 22 rfl hB 41 ti0 (.int .u64 0) 1 8 Try.underlying22 hi0 hz0 hz1 hz2 rfl (by decide) _ _ _ rfl O3.out [.int .u64 (u : Int)] rfl rfl rfl hk3 (by omega) hsz3 ?_)
              intro g4 cap4 w4 hown4 _ _ _ hgr
              rw [HTS.out] at hown4
              have H3 := Lib.hid hown4
              have H4 := Lib.hid (HB3.out.trans hgr)
              clear hown4 hgr
              go_wp2_with fail
              go_roundw
              case rel => exact ⟨i + 1, by omega, by go_num, by rw [HMS.out], H3.out, H4.out⟩
              case measure => simp [intOf]; omega
            · have HMS : Hid (mx (red l) (i + 1) = M) := Lib.hid (by rw [hms]; omega)
              have g1 : decide ((M : Int) < (u : Int)) = false := decide_eq_false (by omega)
              have g2 : decide (M < u) = false := decide_eq_false hgt
              clear hms hgt
              go_wp2_with (at_builtin; refine Rw.push rfl _ _ 22 rfl hB 41 ti0 (.int .u64 0) 1 8 Try.underlying22 hi0 hz0 hz1 hz2 rfl (by decide) _ _ _ rfl O3.out [.int .u64 (u : Int)] rfl rfl rfl hk3 (by omega) hsz3 ?_)
              intro g4 cap4 w4 hown4 _ _ _ hgr
              rw [HTS.out] at hown4
              have H3 := Lib.hid hown4
              have H4 := Lib.hid (HB3.out.trans hgr)
              clear hown4 hgr
              go_wp2_with fail
              go_roundw
              case rel => exact ⟨i + 1, by omega, by go_num, by rw [HMS.out], H3.out, H4.out⟩
              case measure => simp [intOf]; omega
      · obtain rfl : i = m := by omega
        have ho2 := HO.out
        rw [List.take_of_length_le (by rw [HRL.out]; exact Nat.le_refl _)] at ho2
        obtain ⟨q5, c5, rfl, hc5, hr5, _⟩ := own_rdN ho2
        have HR5 := Lib.hid hr5
        have B9 : Hid (Below w.heap.size w wr) := Lib.hid (HB.out.trans (HB2.out.mono (by rw [HH.out]; exact HB.out.size)))
        have hmb : mx (red l) i ≤ 4194304 := by
          rw [← HMN.out, many_is]
          have h1 : (firsts (trips l)).length ≤ (trips l).length := by
            have := List.length_filter_le (first (trips l)) (List.range (trips l).length)
            rw [List.length_range] at this
            exact this
          have h2 : (trips l).length = i := by rw [trips_length, ← red_length, HRL.out]
          omega
        obtain ⟨M, hM⟩ : ∃ M, M = mx (red l) i := ⟨_, rfl⟩
        rw [← hM] at hmb HMN ⊢
        have ew : IntKind.i64.wrap (M : Int) = (M : Int) := IntWalk.i64_in _ (by omega)
        clear ho2 hr5 hM
        go_wp2_with fail
        refine bodyPost_ret (v := .tuple #[.slice q5 i c5, .int .i64 (M : Nat), .int .i64 0]) (by simp [results, Try.results12, go_sem]) rfl ?_
        rw [E.out.1, E.out.2, HMN.out]
        exact rd_mk HRL.out hc5 HR5.out B9.out
/-- the order that is expanded -/
def exL (l : List Nat) (E : List Int) : List Nat := if okL l = true ∧ right (red l) E = true then ends l else []
def exE (l : List Nat) (E : List Int) : Int := if okL l = true then (if right (red l) E = true then 0 else 2) else 1
set_option maxHeartbeats 2000000 in
set_option maxRecDepth 100000 in
theorem rexpand_any (l : List Nat) (E : List Int) (p q : Option Addr) (c d : Nat) (w : World) (hp : Rd w p (nums l)) (hq : Rd w q (zs E)) (hlc : l.length ≤ c) (hl : l.length ≤ 17592186044416) (hE : E.length ≤ 17592186044416) :
    Calls Try.prog 21 #[.slice p l.length c, .slice q E.length d] w (PL w (exL l E) (exE l E)) := by
  have HC := Lib.hid (rreduce_any l p c w hp hl)
  have HP := Lib.hid hp; have HQ := Lib.hid hq
  cases ho : okL l with
  | false =>
    have e1 : exL l E = [] := if_neg (by rw [ho]; simp)
    have e2 : exE l E = 1 := if_neg (by rw [ho]; simp)
    rw [(rd_no ho).1, (rd_no ho).2, (smp_no ho).2] at HC
    rw [e1, e2]
    obtain ⟨n, hn⟩ : ∃ n, n = l.length := ⟨_, rfl⟩
    obtain ⟨m, hm⟩ : ∃ m, m = E.length := ⟨_, rfl⟩
    rw [← hn] at HC ⊢
    rw [← hm]
    clear hn hm ho hp hq hl hlc hE e1 e2
    go_enter Try.func21, Try.ntmps21
    go_wp2_with fail
    refine HC.out.mono ?_
    rintro e w1 ⟨q1, c1, rfl, _, _, hb⟩
    have HB := Lib.hid hb
    clear hb
    go_wp2_with fail
    refine bodyPost_ret (v := .tuple #[.slice none 0 0, .int .i64 1]) (by simp [results, Try.results21, go_sem]) rfl ?_
    exact pl_mk rfl (Nat.le_refl _) (Rd.nil _ _) HB.out
  | true =>
    have h4 := ok_len ho
    rw [(rd_yes ho).1, (rd_yes ho).2, (smp_yes ho).2] at HC
    have hrl : (red l).length ≤ 17592186044416 := by rw [red_length]; have := mm_le l.length; omega
    have CR : Hid (∀ q1 c1 W, Rd W q1 (nums (red l)) → Rd W q (zs E) → (red l).length ≤ c1 → Calls Try.prog 36 #[.slice q1 (red l).length c1, .slice q E.length d] W fun e w' => e = .returned (.bool (right (red l) E)) ∧ Below W.heap.size W w') := Lib.hid (fun q1 c1 W h1 h2 h3 => rright_any (red l) E q1 q c1 d W h1 h2 h3 hrl hE)
    have CE : Hid (∀ W, Rd W p (nums l) → Calls Try.prog 33 #[.slice p l.length c] W (PLn W l.length (ends l) 0)) := Lib.hid (fun W h1 => (rends_any l p c W h1 hlc h4).mono fun _ _ ⟨q, c, e, h1, h2, _, _, h4⟩ => ⟨q, c, by rw [e, ends_length], by rw [← ends_length l]; exact h1, h2, h4⟩)
    have EX : Hid (right (red l) E = true → exL l E = ends l ∧ exE l E = 0) := Lib.hid (fun h => ⟨if_pos ⟨ho, h⟩, by unfold exE; rw [if_pos ho, if_pos h]⟩)
    have EY : Hid (right (red l) E = false → exL l E = [] ∧ exE l E = 2) := Lib.hid (fun h => ⟨if_neg (by rw [h]; simp), by unfold exE; rw [if_pos ho, if_neg (by rw [h]; simp)]⟩)
    obtain ⟨n, hn⟩ : ∃ n, n = l.length := ⟨_, rfl⟩
    obtain ⟨m, hm⟩ : ∃ m, m = E.length := ⟨_, rfl⟩
    obtain ⟨k, hk⟩ : ∃ k, k = (red l).length := ⟨_, rfl⟩
    have HC2 : Hid (Calls Try.prog 12 #[.slice p n c] w (fun e w' => RdN w k (red l) (many l) e w')) := Lib.hid (by
      rw [hn]
      exact HC.out.mono fun _ _ ⟨q, c, e, h1, h2, h3⟩ => ⟨q, c, by rw [e, hk], by rw [hk]; exact h1, h2, h3⟩)
    have HEL : Hid ((ends l).length = n) := Lib.hid (by rw [ends_length, hn])
    rw [← hm, ← hk] at CR
    rw [← hn] at CE ⊢
    rw [← hm]
    clear hn hm hk ho hp hq hl hlc hE h4 hrl HC
    cases hr : right (red l) E with
    | false =>
      have F := Lib.hid (EY.out hr)
      rw [hr] at CR
      rw [F.out.1, F.out.2]
      clear hr
      go_enter Try.func21, Try.ntmps21
      go_wp2_with fail
      refine HC2.out.mono ?_
      rintro e w1 ⟨q1, c1, rfl, hc1, hr1, hb⟩
      have HB := Lib.hid hb
      have R1 := Lib.hid hr1
      have Q1 := Lib.hid (HQ.out.below hb)
      clear hb hr1
      go_wp2_with fail
      refine (CR.out _ _ _ R1.out Q1.out hc1).mono ?_
      rintro e w2 ⟨rfl, hb⟩
      have HB2 := Lib.hid (HB.out.trans (hb.mono HB.out.size))
      clear hb
      go_wp2_with fail
      refine bodyPost_ret (v := .tuple #[.slice none 0 0, .int .i64 2]) (by simp [results, Try.results21, go_sem]) rfl ?_
      exact pl_mk rfl (Nat.le_refl _) (Rd.nil _ _) HB2.out
    | true =>
      have F := Lib.hid (EX.out hr)
      rw [hr] at CR
      rw [F.out.1, F.out.2]
      clear hr
      go_enter Try.func21, Try.ntmps21
      go_wp2_with fail
      refine HC2.out.mono ?_
      rintro e w1 ⟨q1, c1, rfl, hc1, hr1, hb⟩
      have HB := Lib.hid hb
      have R1 := Lib.hid hr1
      have Q1 := Lib.hid (HQ.out.below hb)
      have P1 := Lib.hid (HP.out.below hb)
      clear hb hr1
      go_wp2_with fail
      refine (CR.out _ _ _ R1.out Q1.out hc1).mono ?_
      rintro e w2 ⟨rfl, hb⟩
      have HB2 := Lib.hid (HB.out.trans (hb.mono HB.out.size))
      have P2 := Lib.hid (P1.out.below hb)
      clear hb
      go_wp2_with fail
      refine (CE.out _ P2.out).mono ?_
      rintro e w3 ⟨q3, c3, rfl, hc3, hr3, hb⟩
      have HB3 := Lib.hid (HB2.out.trans (hb.mono HB2.out.size))
      have R3 := Lib.hid hr3
      clear hb hr3
      go_wp2_with fail
      refine bodyPost_ret (v := .tuple #[.slice q3 n c3, .int .i64 0]) (by simp [results, Try.results21, go_sem]) rfl ?_
      exact pl_mk HEL.out hc3 R3.out HB3.out
end Go.Proofs.Ytonlbcibfbbpgaa.Sk
