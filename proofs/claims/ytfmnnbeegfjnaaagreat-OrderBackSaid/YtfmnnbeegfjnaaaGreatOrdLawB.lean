/- The law OrderBack. -/
import Derived.Test.YtfmnnbeegfjnaaaGreatOrdLives
namespace Go.Proofs.YtfmnnbeegfjnaaaGreat.Od
open Go.RowKit Go.Lib Rw Ls _root_.Go.Proofs.YtfmnnbeegfjnaaaGreat.Nm

theorem col_perm (s : List Nat) : (col s).Perm s := by
  by_cases h : s = []
  · subst h; exact List.Perm.refl _
  · have h1 := (places_perm s h).map (fun i => s.getD i 0)
    rw [range_getD, List.map_map] at h1
    unfold col
    rw [if_neg h]
    exact h1
theorem take_count (L : List Nat) (x k : Nat) (h : k < L.length) : (L.take (k + 1)).count x = (L.take k).count x + if L.getD k 0 = x then 1 else 0 := by
  rw [List.take_succ_eq_append_getElem h, List.count_append, gd h]
  by_cases e : L[k] = x
  · rw [if_pos e, e]; simp
  · rw [if_neg e, List.count_singleton]
    simp [e]
theorem colS_lt (s : ByteArray) : ∀ x ∈ col (bsN s), x < 256 := fun x hx => bsN_lt s x ((col_perm (bsN s)).mem_iff.1 hx)
theorem back_text (s : ByteArray) : txtS (col (bsN s)) (prim (bsN s) : Nat) = s ∧ txtE (col (bsN s)) (prim (bsN s) : Nat) = 0 := by
  have h := txt_yes (c := col (bsN s)) (p := (prim (bsN s) : Nat)) (M := bsN s) (by
    unfold textI
    rw [if_neg (by omega), Int.toNat_natCast]; exact text_back _)
  rw [ofN_bsN] at h
  exact h
theorem other_text (s : ByteArray) (o : Int) (h : o ≠ (prim (bsN s) : Nat)) (h0 : txtE (col (bsN s)) o = 0) : txtS (col (bsN s)) o ≠ s := by
  cases hi : textI (col (bsN s)) o with
  | none =>
    rw [(txt_no hi).2] at h0; cases h0
  | some M =>
    rw [(txt_yes hi).1]
    unfold textI at hi
    by_cases hn : o < 0
    · rw [if_pos hn] at hi; cases hi
    · rw [if_neg hn] at hi
      obtain ⟨h1, h2⟩ := text_only hi
      intro e
      have hM : ∀ x ∈ M, x < 256 := fun x hx => by
        have := (col_perm M).mem_iff.2 hx
        rw [h1] at this
        exact colS_lt s x this
      have e2 := bsN_ofN hM
      rw [e] at e2
      rw [← e2] at h2
      omega
theorem back_big (s : ByteArray) (o : Int) (w : World) (h : 300 < s.size) :
    Calls Tryz.prog 6 #[.string s, .int .i64 o] w fun e w' => e = .returned (.bool true) ∧ Below w.heap.size w w' := by
  have CL := Lib.hid (fun W => lives_any W)
  have t1 : decide ((300 : Int) < (s.size : Int)) = true := decide_eq_true (by omega)
  have t3 : decide (300 < s.size) = true := decide_eq_true h
  clear h
  go_enter Tryz.func6, Tryz.ntmps6
  go_wp2_with fail
  refine (CL.out _).mono ?_
  rintro e w1 ⟨rfl, b⟩
  have B := Lib.hid b
  clear b
  go_wp2_with fail
  go_ret
  exact ⟨rfl, B.out⟩
set_option maxHeartbeats 4000000 in
set_option maxRecDepth 100000 in
theorem back_law (s : ByteArray) (o : Int) (w : World) :
    Calls Tryz.prog 6 #[.string s, .int .i64 o] w fun e w' => e = .returned (.bool true) ∧ Below w.heap.size w w' := by
  by_cases hc : 300 < s.size
  · exact back_big s o w hc
  have hC1 : bsN (ofN (col (bsN s))) = col (bsN s) := bsN_ofN (colS_lt s)
  have hC2 : (ofN (col (bsN s))).size = s.size := by rw [← bsN_length, hC1, col_length, bsN_length]
  obtain ⟨C, hC⟩ : ∃ C, C = ofN (col (bsN s)) := ⟨_, rfl⟩
  obtain ⟨q, hq⟩ : ∃ q, q = prim (bsN s) := ⟨_, rfl⟩
  have CA0 : ∀ W, Calls Tryz.prog 19 #[.string s] W fun e w' => e = .returned (.tuple #[.string C, .int .i64 (q : Int), .int .i64 0]) ∧ Below W.heap.size W w' := fun W => by
    have h := pcolumn_any s W (by omega)
    rw [← hC, ← hq] at h
    exact h
  rw [← hC] at hC1 hC2
  have CT0 : ∀ W, Calls Tryz.prog 21 #[.string C, .int .i64 (q : Int)] W fun e w' => e = .returned (.tuple #[.string s, .int .i64 0]) ∧ Below W.heap.size W w' := fun W => by
    have h := ptext_any C (q : Int) W (by omega)
    rw [hC1, hq, (back_text s).1, (back_text s).2, ← hq] at h
    exact h
  obtain ⟨U, r, CU0, hU⟩ : ∃ (U : ByteArray) (r : Int), (∀ W, Calls Tryz.prog 21 #[.string C, .int .i64 o] W fun e w' => e = .returned (.tuple #[.string U, .int .i64 r]) ∧ Below W.heap.size W w') ∧ (o ≠ (q : Int) → r = 0 → U ≠ s) := by
    refine ⟨txtS (bsN C) o, txtE (bsN C) o, fun W => ptext_any C o W (by omega), ?_⟩
    rw [hC1, hq]; exact other_text s o
  have HCN : Hid (∀ x, (bsN C).count x = (bsN s).count x) := Lib.hid (fun x => by rw [hC1]; exact (col_perm (bsN s)).count_eq x)
  have HCS := Lib.hid hC2
  have CA := Lib.hid CA0; have CT := Lib.hid CT0; have CU := Lib.hid CU0; have HU := Lib.hid hU
  have CL := Lib.hid (fun W => lives_any W)
  have t1 : decide ((300 : Int) < (s.size : Int)) = false := decide_eq_false (by omega)
  have t2 : decide (300 < s.size) = false := decide_eq_false hc
  have hn3 : s.size ≤ 300 := by omega
  have ecs : (C.size : Int) = (s.size : Int) := by omega
  clear CA0 CT0 CU0 hU hC hq hC1 hC2 hc
  have B : Hid (Below w.heap.size w w) := Lib.hid (Below.refl _ _)
  go_enter Tryz.func6, Tryz.ntmps6
  go_wp2_with fail
  refine (CL.out _).mono ?_
  rintro e w0 ⟨rfl, b⟩
  replace B := Lib.hid (B.out.trans (b.mono B.out.size))
  clear b
  go_wp2_with fail
  refine (CA.out _).mono ?_
  rintro e w1 ⟨rfl, b⟩
  replace B := Lib.hid (B.out.trans (b.mono B.out.size))
  clear b
  go_wp2_with fail
  refine (CT.out _).mono ?_
  rintro e w2 ⟨rfl, b⟩
  replace B := Lib.hid (B.out.trans (b.mono B.out.size))
  clear b
  obtain ⟨W1, hW1⟩ : ∃ W1, W1 = w2 := ⟨_, rfl⟩
  rw [← hW1] at B
  rw [← hW1]
  clear hW1
  go_wp2_with fail
  clear t1 t2 ecs
  go_loopw [10] (fun i wr => ∃ k z : Nat, k ≤ s.size ∧ i = .int .i64 k ∧ wr = W1.drewN z) (fun i _ => s.size - (intOf i).toNat)
  case atStart => exact ⟨0, 0, by omega, rfl, rfl⟩
  case round =>
    obtain ⟨i, z0, hi, rfl, hw⟩ := hrel
    have HW0 := Lib.hid hw
    clear hw
    by_cases hlt : i < s.size
    · obtain ⟨x, hx⟩ : ∃ x, x = (s[i]'hlt).toNat := ⟨_, rfl⟩
      have ex : ((s[i]'hlt).toNat : Int) = (x : Int) := by rw [hx]
      have HX := Lib.hid hx
      have i0 : (0 : Int) ≤ (i : Int) := by omega
      have i1 : (i : Int) < (s.size : Int) := by omega
      clear hx
      go_wp2_with fail
      go_loopw [11, 12, 13] (fun n m k wr => ∃ j z : Nat, j ≤ s.size ∧ k = .int .i64 j ∧ n = .int .i64 (((bsN s).take j).count x : Nat) ∧ m = .int .i64 (((bsN C).take j).count x : Nat) ∧ wr = W1.drewN z) (fun _ _ k _ => s.size - (intOf k).toNat)
      case atStart => exact ⟨0, z0, by omega, rfl, rfl, rfl, HW0.out⟩
      case round =>
        obtain ⟨j, z1, hj, rfl, rfl, rfl, hw⟩ := hrel
        have HW := Lib.hid hw
        clear hw
        have l1 := List.count_le_length (a := x) (l := (bsN s).take j)
        have l2 := List.count_le_length (a := x) (l := (bsN C).take j)
        rw [List.length_take] at l1 l2
        by_cases hjl : j < s.size
        · have hjc : j < C.size := by rw [HCS.out]; exact hjl
          obtain ⟨y, hy⟩ : ∃ y, y = (s[j]'hjl).toNat := ⟨_, rfl⟩
          obtain ⟨z, hz⟩ : ∃ z, z = (C[j]'hjc).toNat := ⟨_, rfl⟩
          have ey : ((s[j]'hjl).toNat : Int) = (y : Int) := by rw [hy]
          have ez : ((C[j]'hjc).toNat : Int) = (z : Int) := by rw [hz]
          have c1 := take_count (bsN s) x j (by rw [bsN_length]; exact hjl)
          have c2 := take_count (bsN C) x j (by rw [bsN_length]; exact hjc)
          rw [bsN_getD s j hjl, ← hy] at c1
          rw [bsN_getD C j hjc, ← hz] at c2
          obtain ⟨n, hn⟩ : ∃ n, n = ((bsN s).take j).count x := ⟨_, rfl⟩
          obtain ⟨m, hm⟩ : ∃ m, m = ((bsN C).take j).count x := ⟨_, rfl⟩
          rw [← hn] at c1 l1
          rw [← hm] at c2 l2
          rw [← hn, ← hm]
          have j0 : (0 : Int) ≤ (j : Int) := by omega
          have j1 : (j : Int) < (s.size : Int) := by omega
          have j2 : (j : Int) < (C.size : Int) := by omega
          have n3 : n ≤ 300 := by omega
          have m3 : m ≤ 300 := by omega
          clear hy hz hn hm l1 l2
          by_cases h1 : y = x
          · rw [if_pos h1] at c1
            have C1 := Lib.hid c1
            have d1 : ((y : Int) == (x : Int)) = true := by rw [beq_iff_eq]; omega
            have d2 : (y == x) = true := by rw [beq_iff_eq]; exact h1
            by_cases h2 : z = x
            · rw [if_pos h2] at c2
              have C2 := Lib.hid c2
              have d3 : ((z : Int) == (x : Int)) = true := by rw [beq_iff_eq]; omega
              have d4 : (z == x) = true := by rw [beq_iff_eq]; exact h2
              clear c1 c2 h1 h2
              go_wp2_with fail
              go_quiet (fail)
              go_wp2_with fail
              go_quiet (fail)
              go_wp2_with fail
              go_roundw
              case rel => exact ⟨j + 1, _, by omega, by go_num, by rw [C1.out]; go_num, by rw [C2.out]; go_num, by rw [HW.out, World.drewN_drewN]⟩
              case measure => simp [intOf]; omega
            · rw [if_neg h2] at c2
              have C2 := Lib.hid c2
              have d3 : ((z : Int) == (x : Int)) = false := by rw [beq_eq_false_iff_ne]; omega
              have d4 : (z == x) = false := by rw [beq_eq_false_iff_ne]; exact h2
              clear c1 c2 h1 h2
              go_wp2_with fail
              go_quiet (fail)
              go_wp2_with fail
              go_quiet (fail)
              go_wp2_with fail
              go_roundw
              case rel => exact ⟨j + 1, _, by omega, by go_num, by rw [C1.out]; go_num, by rw [C2.out, Nat.add_zero], by rw [HW.out, World.drewN_drewN]⟩
              case measure => simp [intOf]; omega
          · rw [if_neg h1] at c1
            have C1 := Lib.hid c1
            have d1 : ((y : Int) == (x : Int)) = false := by rw [beq_eq_false_iff_ne]; omega
            have d2 : (y == x) = false := by rw [beq_eq_false_iff_ne]; exact h1
            by_cases h2 : z = x
            · rw [if_pos h2] at c2
              have C2 := Lib.hid c2
              have d3 : ((z : Int) == (x : Int)) = true := by rw [beq_iff_eq]; omega
              have d4 : (z == x) = true := by rw [beq_iff_eq]; exact h2
              clear c1 c2 h1 h2
              go_wp2_with fail
              go_quiet (fail)
              go_wp2_with fail
              go_quiet (fail)
              go_wp2_with fail
              go_roundw
              case rel => exact ⟨j + 1, _, by omega, by go_num, by rw [C1.out, Nat.add_zero], by rw [C2.out]; go_num, by rw [HW.out, World.drewN_drewN]⟩
              case measure => simp [intOf]; omega
            · rw [if_neg h2] at c2
              have C2 := Lib.hid c2
              have d3 : ((z : Int) == (x : Int)) = false := by rw [beq_eq_false_iff_ne]; omega
              have d4 : (z == x) = false := by rw [beq_eq_false_iff_ne]; exact h2
              clear c1 c2 h1 h2
              go_wp2_with fail
              go_quiet (fail)
              go_wp2_with fail
              go_quiet (fail)
              go_wp2_with fail
              go_roundw
              case rel => exact ⟨j + 1, _, by omega, by go_num, by rw [C1.out, Nat.add_zero], by rw [C2.out, Nat.add_zero], by rw [HW.out, World.drewN_drewN]⟩
              case measure => simp [intOf]; omega
        · obtain rfl : j = s.size := by omega
          have e1 : ((bsN s).take s.size).count x = ((bsN C).take s.size).count x := by
            rw [List.take_of_length_le (by rw [bsN_length]; exact Nat.le_refl _), List.take_of_length_le (by rw [bsN_length, HCS.out]; exact Nat.le_refl _), HCN.out]
          rw [e1]
          obtain ⟨m, hm⟩ : ∃ m, m = ((bsN C).take s.size).count x := ⟨_, rfl⟩
          rw [← hm]
          clear e1 hm l1 l2
          go_wp2_with fail
          go_roundw
          case rel => exact ⟨i + 1, _, by omega, by go_num, HW.out⟩
          case measure => simp [intOf]; omega
    · obtain rfl : i = s.size := by omega
      have B9 : Hid (Below w.heap.size w wr) := Lib.hid (by rw [HW0.out]; exact below_drewN B.out z0)
      clear B
      have B := B9
      clear B9
      by_cases h1 : o = (q : Int)
      · have d1 : (o == (q : Int)) = true := by rw [beq_iff_eq]; exact h1
        clear h1
        go_wp2_with fail
        refine (CU.out _).mono ?_
        rintro e w9 ⟨rfl, b⟩
        replace B := Lib.hid (B.out.trans (b.mono B.out.size))
        clear b
        go_wp2_with fail
        go_ret
        exact ⟨rfl, B.out⟩
      · have d1 : (o == (q : Int)) = false := by rw [beq_eq_false_iff_ne]; exact h1
        by_cases h2 : r = 0
        · have hu := HU.out h1 h2
          subst h2
          have d4 : ¬ (U.toList = s.toList) := fun h => hu (by
            apply ByteArray.ext
            rw [toList_data, toList_data] at h
            exact Array.toList_inj.1 h)
          have d5 : (U.toList == s.toList) = false := by rw [beq_eq_false_iff_ne]; exact d4
          clear h1
          go_wp2_with fail
          refine (CU.out _).mono ?_
          rintro e w9 ⟨rfl, b⟩
          replace B := Lib.hid (B.out.trans (b.mono B.out.size))
          clear b
          go_wp2_with fail
          go_ret
          exact ⟨rfl, B.out⟩
        · have d2 : (r != 0) = true := by rw [bne_iff_ne]; exact h2
          clear h1 h2
          go_wp2_with fail
          refine (CU.out _).mono ?_
          rintro e w9 ⟨rfl, b⟩
          replace B := Lib.hid (B.out.trans (b.mono B.out.size))
          clear b
          go_wp2_with fail
          go_ret
          exact ⟨rfl, B.out⟩
end Go.Proofs.YtfmnnbeegfjnaaaGreat.Od
