/- The document's Top and Path. -/
import Derived.Test.YthkgdjclgphodaaLsRefD
namespace Go.Proofs.Ythkgdjclgphodaa.Ls
open Go.RowKit Rw Nm

theorem cell_lt' {w : World} {a : Addr} {v : Value} (h : w.cell? a = some v) : a.block < w.heap.size := by
  rcases Nat.lt_or_ge a.block w.heap.size with hl | hl
  · exact hl
  · unfold World.cell? at h
    rw [Array.getElem?_eq_none hl] at h
    cases h
section
variable {K : Keys} {T : List Int} {p q : Option Addr} {c d : Nat} {w : World}
set_option maxHeartbeats 4000000 in
set_option maxRecDepth 100000 in
theorem rtop_any (h : LsAt w p K q T) (hkb : Kb K) :
    Calls Try.prog 14 #[.agg #[.slice p K.length c, .slice q T.length d]] w fun e w' => TopP w K T e w' := by
  obtain ⟨i1, hi1, hy0, hy1, hy2⟩ := info_parts info_u64
  obtain ⟨n, hn⟩ : ∃ n, n = K.length := ⟨_, rfl⟩
  obtain ⟨m, hm⟩ : ∃ m, m = T.length := ⟨_, rfl⟩
  obtain ⟨W0, hW0⟩ : ∃ W0, W0 = w.alloc (.cells #[.slice p n c, .slice q m d] 25) := ⟨_, rfl⟩
  have t0 : Below w.heap.size w W0 := by rw [hW0]; exact (Below.refl _ _).alloc (Nat.le_refl _) _
  have bx := Bx.new w #[.slice p n c, .slice q m d] 25
  rw [← hW0] at bx
  obtain ⟨r, hr⟩ : ∃ r, r = chk K T := ⟨_, rfl⟩
  have HC := Lib.hid (rcheck_any (c := c) (d := d) (h.below t0))
  rw [← hr] at HC
  rw [← hn, ← hm] at HC ⊢
  have u0 : W0.cell? ⟨w.heap.size, 0, none⟩ = some (.slice p n c) := bx.cell 0 (by simp)
  have u1 : W0.cell? ⟨w.heap.size, 1, none⟩ = some (.slice q m d) := bx.cell 1 (by simp)
  have T0 := Lib.hid t0; have HW0 := Lib.hid hW0; have HBX := Lib.hid bx
  rcases chk_cases K T with ⟨h0, hK, hT⟩ | h2
  case inr =>
    rw [h2] at hr
    subst hr
    have hE : topE K T = 2 := by unfold topE; rw [h2]; rfl
    clear h hkb hn hm t0 bx h2 hW0
    go_enter Try.func14, Try.ntmps14
    go_wp2_with fail
    rw [← HW0.out]
    refine HC.out.mono ?_
    rintro e w1 ⟨rfl, b1⟩
    have B := Lib.hid (T0.out.trans (b1.mono T0.out.size))
    clear b1
    go_wp2_with fail
    refine bodyPost_ret (v := .tuple #[.int .i64 0, .slice none 0 0, .int .i64 2]) (by simp [results, Try.results14, go_sem]) rfl ?_
    exact top_no 2 hE (by decide) B.out
  case inl =>
    rw [h0] at hr
    subst hr
    obtain ⟨i, hi⟩ : ∃ i, i = wn K 1 := ⟨_, rfl⟩
    have HLS : Hid (∀ W, Below w.heap.size w W → LsAt W p K q T) := Lib.hid fun W hW => h.below hW
    have HR := Lib.hid (fun W g (hW : Below w.heap.size w W) (hb : Bx W g [.slice p n c, .slice q m d]) => box_reads (HLS.out W hW) hT hK.1 hn hm hi hb)
    have HKI := Lib.hid (hkb i (by rw [hi]; exact wn_lt (by omega) (by omega)))
    have FE : Hid (topE K T = if kat K i = [] then 3 else 0) := Lib.hid (by unfold topE; rw [if_pos h0, ← hi])
    have FI : Hid (topE K T = 0 → topI K T = (i : Nat) ∧ topK K T = kat K i) := Lib.hid fun e => by unfold topI topK; rw [if_pos e, if_pos e, ← hi]; exact ⟨rfl, rfl⟩
    clear h hkb hn hm t0 bx hW0 h0 hK hT hi HLS
    go_enter Try.func14, Try.ntmps14
    go_wp2_with fail
    rw [← HW0.out]
    refine HC.out.mono ?_
    rintro e w1 ⟨rfl, b1⟩
    have hB1 := T0.out.trans (b1.mono T0.out.size)
    have bx1 := HBX.out.below b1
    have v0 : w1.cell? ⟨w.heap.size, 0, none⟩ = some (.slice p n c) := bx1.cell 0 (by simp)
    have v1 : w1.cell? ⟨w.heap.size, 1, none⟩ = some (.slice q m d) := bx1.cell 1 (by simp)
    have vl := bx1.lt
    obtain ⟨a, b, qk, dk, rfl, rfl, hnm, hin, _, _, z2, z3, z4⟩ := HR.out w1 _ hB1 bx1
    obtain ⟨x, hx⟩ : ∃ x, x = kat K i := ⟨_, rfl⟩
    have hxl : x.length ≤ 17592186044416 := by rw [hx]; exact HKI.out
    rw [← hx] at z3 z4 FE FI
    have HB1 := Lib.hid hB1
    have hal : Below w1.heap.size w1 (w1.alloc (.cells #[] 52)) := (Below.refl _ _).alloc (Nat.le_refl _) _
    have z5 : (w1.alloc (.cells #[] 52)).cell? (a.add i) = some (.slice qk x.length dk) := by rw [hal.cell (by rw [add_block]; have := cell_lt' z3; rw [add_block] at this; exact this)]; exact z3
    have HRA : Hid (Rd (w1.alloc (.cells #[] 52)) qk (nums x)) := Lib.hid (z4.below hal)
    have HOA : Hid ((w1.alloc (.cells #[] 52)).ownsRow w1.heap.size 52 1 (.slice (some ⟨w1.heap.size, 0, none⟩) 0 0) 0 []) := Lib.hid (World.ownsRow_lit (e := 52) (base := w1.heap.size) (size := 1) w1 #[] 0 (Nat.le_refl _) (by decide) rfl)
    have HAL := Lib.hid hal
    have hnl : (nums x).length = x.length := nums_length x
    obtain ⟨lx, hlx⟩ : ∃ lx, lx = x.length := ⟨_, rfl⟩
    rw [← hlx] at z3 z5 hxl hnl
    have z2' : w1.cell? (b.add 0) = some (.int .i64 (i : Nat)) := by rw [add_zero']; exact z2
    have i0 : (0 : Int) ≤ (i : Int) := by omega
    have i1' : (i : Int) < (n : Int) := by omega
    have m0 : (0 : Int) < (m : Int) := by omega
    clear b1 hB1 bx1 z4 hnm hx u0 u1 hal
    by_cases hx0 : lx = 0
    · have hE : topE K T = 3 := by rw [FE.out, if_pos (List.length_eq_zero_iff.1 (by omega))]
      have t : ((lx : Int) == 0) = true := by rw [beq_iff_eq]; omega
      clear hlx hx0 FI hin
      go_wp2_with fail
      refine bodyPost_ret (v := .tuple #[.int .i64 0, .slice none 0 0, .int .i64 3]) (by simp [results, Try.results14, go_sem]) rfl ?_
      exact top_no 3 hE (by decide) HB1.out
    · have hE : topE K T = 0 := by rw [FE.out, if_neg (fun e => hx0 (by rw [hlx, e]; rfl))]
      have t : ((lx : Int) == 0) = false := by rw [beq_eq_false_iff_ne]; omega
      have HLX := Lib.hid hlx
      clear hlx hx0 hin
      go_wp2_with (at_builtin; refine appendRd rfl _ _ 32 rfl w1.heap.size 52 i1 (.int .u64 0) 8 Try.underlying32 hi1 hy0 hy1 hy2 rfl w1.heap.size 0 0 [] rfl HOA.out qk lx dk (nums x) rfl HRA.out hnl (nums_one x) (by unfold maxLen; omega) (by omega) (by simp) ?_)
      intro g cap w' h2 _ _ _ h5
      have F : Hid (TopP w K T (.returned (.tuple #[.int .i64 (i : Nat), .slice (some ⟨g, 0, none⟩) lx cap, .int .i64 0])) w') := Lib.hid (by
        obtain ⟨e1, e2⟩ := FI.out hE
        refine ⟨_, cap, by rw [e1, e2, hE, HLX.out], by rw [e2]; exact Rd.of_own h2, HB1.out.trans ((HAL.out.trans h5).mono HB1.out.size)⟩)
      clear h2 h5
      go_wp2_with fail
      refine bodyPost_ret (v := .tuple #[.int .i64 (i : Nat), .slice (some ⟨g, 0, none⟩) lx cap, .int .i64 0]) (by simp [results, Try.results14, go_sem]) rfl ?_
      exact F.out

set_option maxHeartbeats 4000000 in
set_option maxRecDepth 100000 in
theorem rpath_any (leaf : Int) (h : LsAt w p K q T) :
    Calls Try.prog 18 #[.agg #[.slice p K.length c, .slice q T.length d], .int .i64 leaf] w fun e w' => PathP w K T leaf e w' := by
  obtain ⟨i0, hi0, hz0, hz1, hz2⟩ := info_parts info_int
  obtain ⟨n, hn⟩ : ∃ n, n = K.length := ⟨_, rfl⟩
  obtain ⟨m, hm⟩ : ∃ m, m = T.length := ⟨_, rfl⟩
  obtain ⟨W0, hW0⟩ : ∃ W0, W0 = w.alloc (.cells #[.slice p n c, .slice q m d] 25) := ⟨_, rfl⟩
  have t0 : Below w.heap.size w W0 := by rw [hW0]; exact (Below.refl _ _).alloc (Nat.le_refl _) _
  have bx := Bx.new w #[.slice p n c, .slice q m d] 25
  rw [← hW0] at bx
  obtain ⟨r, hr⟩ : ∃ r, r = chk K T := ⟨_, rfl⟩
  have HC := Lib.hid (rcheck_any (c := c) (d := d) (h.below t0))
  rw [← hr] at HC
  rw [← hn, ← hm] at HC ⊢
  have u0 : W0.cell? ⟨w.heap.size, 0, none⟩ = some (.slice p n c) := bx.cell 0 (by simp)
  have u1 : W0.cell? ⟨w.heap.size, 1, none⟩ = some (.slice q m d) := bx.cell 1 (by simp)
  have T0 := Lib.hid t0; have HW0 := Lib.hid hW0; have HBX := Lib.hid bx
  rcases chk_cases K T with ⟨h0, hK, hT⟩ | h2
  case inr =>
    rw [h2] at hr
    subst hr
    have hE : pathE K T leaf = 2 := by unfold pathE; rw [h2]; rfl
    clear h hn hm t0 bx h2 hW0
    go_enter Try.func18, Try.ntmps18
    go_wp2_with fail
    rw [← HW0.out]
    refine HC.out.mono ?_
    rintro e w1 ⟨rfl, b1⟩
    have B := Lib.hid (T0.out.trans (b1.mono T0.out.size))
    clear b1
    go_wp2_with fail
    refine bodyPost_ret (v := .tuple #[.slice none 0 0, .int .i64 2]) (by simp [results, Try.results18, go_sem]) rfl ?_
    exact path_no 2 hE (by decide) B.out
  case inl =>
    rw [h0] at hr
    subst hr
    have FE : Hid (pathE K T leaf = if 0 ≤ leaf ∧ leaf < n then 0 else 1) := Lib.hid (by unfold pathE; rw [if_pos h0, hn])
    have FL : Hid (pathE K T leaf = 0 → pathL K T leaf = path ((n + leaf.toNat) / 2)) := Lib.hid fun e => by unfold pathL; rw [if_pos e, hn]
    have hK2 : n ≤ 256 := by rw [hn]; exact hK.2
    clear h hn hm t0 bx hW0 h0 hK hT
    go_enter Try.func18, Try.ntmps18
    go_wp2_with fail
    rw [← HW0.out]
    refine HC.out.mono ?_
    rintro e w1 ⟨rfl, b1⟩
    have hB1 := T0.out.trans (b1.mono T0.out.size)
    have bx1 := HBX.out.below b1
    have v0 : w1.cell? ⟨w.heap.size, 0, none⟩ = some (.slice p n c) := bx1.cell 0 (by simp)
    have v1 : w1.cell? ⟨w.heap.size, 1, none⟩ = some (.slice q m d) := bx1.cell 1 (by simp)
    have B1 := Lib.hid hB1
    clear b1 bx1 hB1 u0 u1
    by_cases hl : leaf < 0
    · have hE : pathE K T leaf = 1 := by rw [FE.out, if_neg (by omega)]
      go_wp2_with fail
      refine bodyPost_ret (v := .tuple #[.slice none 0 0, .int .i64 1]) (by simp [results, Try.results18, go_sem]) rfl ?_
      exact path_no 1 hE (by decide) B1.out
    · by_cases hl2 : leaf < (n : Int)
      · obtain ⟨i, rfl⟩ : ∃ i : Nat, leaf = (i : Int) := ⟨leaf.toNat, by omega⟩
        have hE : pathE K T (i : Int) = 0 := by rw [FE.out, if_pos (by omega)]
        have hL := FL.out hE
        rw [show ((i : Int)).toNat = i by omega] at hL
        have hin : i < n := by omega
        have tl : decide ((i : Int) < 0) = false := decide_eq_false hl
        have tl2 : decide (n ≤ i) = false := decide_eq_false (by omega)
        obtain ⟨x, hx⟩ : ∃ x, x = (n + i) / 2 := ⟨_, rfl⟩
        rw [← hx] at hL
        have e1 : IntKind.i64.wrap ((n : Int) + (i : Int)) = (n : Int) + (i : Int) := IntWalk.i64_in _ (by omega)
        have e2 : ((n : Int) + (i : Int)).tdiv 2 = (x : Int) := by rw [hx, Int.tdiv_eq_ediv_of_nonneg (by omega)]; omega
        have hps : (path x).length ≤ 1000 := path_short (by omega)
        have hxb : x ≤ 256 := by omega
        clear hx hl hl2 FE FL
        go_wp2_with fail
        go_loopw [6, 7] (fun u v wr => ∃ (pre : List Nat) (y : Nat), v = .int .i64 (y : Nat) ∧ y ≤ x ∧ path x = pre ++ path y ∧ wr.ownsRow w.heap.size 3 1 u pre.length (zs (up pre)) ∧ Below w.heap.size w wr) (fun _ v _ => (intOf v).toNat)
        case atStart => exact ⟨[], x, rfl, by omega, rfl, World.ownsRow_nil _ _ _ _, B1.out⟩
        case round =>
          obtain ⟨pre, y, rfl, hyx, hp, hrow, hB⟩ := hrel
          by_cases hy : 1 ≤ y
          · have hp2 : path x = (pre ++ [y]) ++ path (y / 2) := by rw [hp, path_pos hy]; simp
            have hpl : pre.length + 1 ≤ 1000 := by have := congrArg List.length hp2; simp at this; omega
            have e3 : ((y : Int)).tdiv 2 = ((y / 2 : Nat) : Int) := by rw [Int.tdiv_eq_ediv_of_nonneg (by omega)]; omega
            have t1 : decide ((1 : Int) ≤ (y : Int)) = true := decide_eq_true (by omega)
            have HP := Lib.hid hp2
            clear hp hp2 e1 e2
            have hrow2 := Lib.hid (own_below hrow ((Below.refl _ wr).alloc (Nat.le_refl _) (.cells #[.int .i64 (y : Nat)] 3)))
            have hsz := hB.size
            have HBB := Lib.hid hB
            have HOL := Lib.hid hrow.lt
            clear hrow hB
            go_wp2_with (at_builtin; refine wpList_append_own _ rfl _ _ 23 rfl w.heap.size 3 i0 (.int .i64 0) 1 8 Try.underlying23 hi0 hz0 hz1 hz2 rfl (by decide) _ _ _ rfl hrow2.out ⟨wr.heap.size, 0, none⟩ 1 1 [.int .i64 (y : Nat)] rfl rfl (cell_one_new _ _ _) (by simp [Value.oneCell']) (by unfold maxLen; omega) (by omega) (by simp; omega) ?_)
            intro v' w2 hown' hgrow _
            have F : Hid (w2.ownsRow w.heap.size 3 1 v' (pre ++ [y]).length (zs (up (pre ++ [y]))) ∧ Below w.heap.size w w2) := Lib.hid (by
              refine ⟨by rw [zs_up_snoc, List.length_append]; exact hown', ?_⟩
              have hba : Below w.heap.size w (wr.alloc (.cells #[.int .i64 (y : Nat)] 3)) := HBB.out.alloc hsz _
              exact hba.grown hgrow hba.size (fun k e => (HOL.out k e).1))
            clear hown' hgrow
            go_wp2_with fail
            go_roundw
            case rel => exact ⟨pre ++ [y], y / 2, by go_num, by omega, HP.out, F.out.1, F.out.2⟩
            case measure => simp [intOf]; omega
          · obtain rfl : y = 0 := by omega
            have hpx : path x = pre := by rw [hp, path_zero]; simp
            obtain ⟨q', c', rfl, hrd⟩ := own_rd hrow
            have F : Hid (PathP w K T (i : Int) (.returned (.tuple #[.slice q' pre.length c', .int .i64 0])) wr) := Lib.hid ⟨q', c', by rw [hL, hE, hpx], by rw [hL, hpx]; exact hrd, hB⟩
            clear hp hrow hB hrd hpx e1 e2
            go_wp2_with fail
            refine bodyPost_ret (v := .tuple #[.slice q' pre.length c', .int .i64 0]) (by simp [results, Try.results18, go_sem]) rfl ?_
            exact F.out
      · have hE : pathE K T leaf = 1 := by rw [FE.out, if_neg (by omega)]
        go_wp2_with fail
        refine bodyPost_ret (v := .tuple #[.slice none 0 0, .int .i64 1]) (by simp [results, Try.results18, go_sem]) rfl ?_
        exact path_no 1 hE (by decide) B1.out
end
end Go.Proofs.Ythkgdjclgphodaa.Ls
