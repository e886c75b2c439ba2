/- LoserSorted: the law's walk. -/
import Derived.Test.YthkgdjclgphodaaLsSortM
import Derived.Test.YthkgdjclgphodaaLsPutN
namespace Go.Proofs.Ythkgdjclgphodaa.Ls
open Go.RowKit Rw Nm

theorem info_bool : (Try.prog.info? 4).map (fun i => (i.zero, i.size, i.bytes)) = some (some (.bool false), 1, 1) := by kernel_rfl
def bs (D : List Bool) : List Value := D.map .bool
theorem bs_length (D : List Bool) : (bs D).length = D.length := by simp [bs]
theorem bs_getD (D : List Bool) (k : Nat) (h : k < D.length) : (bs D).getD k (.bool false) = .bool (D.getD k false) := by
  simp [bs, List.getD_eq_getElem?_getD, List.getElem?_eq_getElem h]
theorem bs_set (D : List Bool) (k : Nat) (b : Bool) : (bs D).set k (.bool b) = bs (D.set k b) := by simp [bs, List.map_set]
theorem falses (n : Nat) : (madeCells (Value.bool false).cells (n * 1)).toList = bs (List.replicate n false) := by
  rw [show (Value.bool false).cells = #[Value.bool false] by simp [Value.cells], Nat.mul_one, toList_madeCells_one]
  simp [bs]
/-- the world between two rounds -/
structure SoI (w W : World) (K : Keys) (bt gD n : Nat) (p1 q1 : Option Addr) (c1 d1 : Nat) (D : List Bool) : Prop where
  box : Bx W bt [.slice p1 n c1, .slice q1 n d1]
  tree : ∀ (W'' : World) (P : Nat → Prop), Bar W W'' P → (∀ k, P k → k = gD ∨ k = bt) → LsAt W'' p1 (cur K D) q1 (up (build (cur K D)))
  row : W.ownsRow w.heap.size 4 1 (.slice (some ⟨gD, 0, none⟩) n n) n (bs D)
  off : bt ≠ gD
  bel : Below w.heap.size w W
theorem SoI.below {w W W' : World} {K : Keys} {bt gD n : Nat} {p1 q1 : Option Addr} {c1 d1 : Nat} {D : List Bool} (h : SoI w W K bt gD n p1 q1 c1 d1 D) (hb : Below W.heap.size W W') : SoI w W' K bt gD n p1 q1 c1 d1 D :=
  ⟨h.box.below hb, fun W'' P hb2 hP => h.tree W'' P ((Bar.of_below hb P).trans hb2) hP, own_below h.row hb, h.off, h.bel.trans (hb.mono h.bel.size)⟩
theorem SoI.at {w W : World} {K : Keys} {bt gD n : Nat} {p1 q1 : Option Addr} {c1 d1 : Nat} {D : List Bool} (h : SoI w W K bt gD n p1 q1 c1 d1 D) : LsAt W p1 (cur K D) q1 (up (build (cur K D))) := h.tree W (fun _ => False) (Bar.refl _ _) (fun _ h => h.elim)
theorem SoI.cell {w W : World} {K : Keys} {bt gD n : Nat} {p1 q1 : Option Addr} {c1 d1 : Nat} {D : List Bool} (h : SoI w W K bt gD n p1 q1 c1 d1 D) {i : Nat} (hi : i < D.length) : W.cell? ⟨gD, i, none⟩ = some (.bool (D.getD i false)) ∧ W.frozen? ⟨gD, i, none⟩ = false := by
  refine ⟨?_, h.row.frozenAt i⟩
  have := h.row.cells (g := gD) rfl i (.bool (D.getD i false)) (by
    have e : (bs D)[i]? = some ((bs D).getD i (.bool false)) := by rw [List.getD_eq_getElem?_getD, List.getElem?_eq_getElem (by rw [bs_length]; exact hi)]; rfl
    rw [e, bs_getD _ _ hi])
  simpa [Addr.add_lit] using this

/-- one is told: what Put reads, and what is there behind it -/
theorem SoI.tell {w W : World} {K : Keys} {bt gD n : Nat} {p1 q1 : Option Addr} {c1 d1 : Nat} {D : List Bool} (h : SoI w W K bt gD n p1 q1 c1 d1 D) (i : Nat) :
    Bx (W.setCell ⟨gD, i, none⟩ (.bool true)) bt [.slice p1 n c1, .slice q1 n d1] ∧ LsAt (W.setCell ⟨gD, i, none⟩ (.bool true)) p1 (cur K D) q1 (up (build (cur K D))) ∧
      (W.setCell ⟨gD, i, none⟩ (.bool true)).ownsRow w.heap.size 4 1 (.slice (some ⟨gD, 0, none⟩) n n) n (bs (D.set i true)) ∧ Below w.heap.size w (W.setCell ⟨gD, i, none⟩ (.bool true)) := by
  have hb : Bar W (W.setCell ⟨gD, i, none⟩ (.bool true)) (fun k => k = gD) := (Bar.refl W (fun k => k = gD)).setCell rfl _
  refine ⟨h.box.bar hb h.off, h.tree _ _ hb (fun k e => .inl e), ?_, h.bel.setCell (p := ⟨gD, i, none⟩) (h.row.lt gD rfl).1 _⟩
  have := (h.row.stored i (.bool true)).1
  rw [bs_set] at this
  exact this
theorem SoI.put {w W W7 : World} {K : Keys} {bt gD n : Nat} {p1 q1 p q : Option Addr} {c1 d1 c d : Nat} {D : List Bool} (hbx : Bx W bt [.slice p1 n c1, .slice q1 n d1]) (hbt : w.heap.size ≤ bt) (hoff : bt ≠ gD)
    (hrow : W.ownsRow w.heap.size 4 1 (.slice (some ⟨gD, 0, none⟩) n n) n (bs D)) (hbel : Below w.heap.size w W)
    (hls : ∀ (w'' : World) (P : Nat → Prop), Bar W7 w'' P → (∀ k, W.heap.size ≤ k → ¬ P k) → LsAt w'' p (cur K D) q (up (build (cur K D)))) (hb7 : Below W.heap.size W W7) :
    SoI w ((W7.setCell ⟨bt, 0, none⟩ (.slice p n c)).setCell ⟨bt, 1, none⟩ (.slice q n d)) K bt gD n p q c d D := by
  have hb : Bar W7 ((W7.setCell ⟨bt, 0, none⟩ (.slice p n c)).setCell ⟨bt, 1, none⟩ (.slice q n d)) (fun k => k = bt) := ((Bar.refl W7 (fun k => k = bt)).setCell rfl _).setCell rfl _
  have hlt := hbx.lt
  have hgl := (hrow.lt gD rfl).2
  refine ⟨?_, fun W'' P hb2 hP => hls W'' (fun k => P k ∨ k = bt) ((hb.mono (fun k _ h => .inr h)).trans (hb2.mono (fun k _ h => .inl h))) (fun k hk h => ?_), own_bar (own_below hrow hb7) hb (fun k e e2 => by simp [Value.ownBlock] at e; omega), hoff, ?_⟩
  · have := ((hbx.below hb7).set (i := 0) (by simp) (.slice p n c)).set (i := 1) (by simp) (.slice q n d)
    simpa using this
  · rcases h with h | h
    · rcases hP k h with h | h <;> omega
    · omega
  · exact (((hbel.trans (hb7.mono hbel.size)).setCell (p := ⟨bt, 0, none⟩) hbt _).setCell (p := ⟨bt, 1, none⟩) hbt _)

section
variable {K : Keys} {p : Option Addr} {c : Nat} {w : World}
set_option maxHeartbeats 8000000 in
set_option maxRecDepth 100000 in
theorem sorted_law (h : RecsAt w p K) (hkb : Kb K) (hn0 : K.length ≤ maxLen) :
    Calls Try.prog 5 #[.slice p K.length c] w fun e w' => e = .returned (.bool true) ∧ Below w.heap.size w w' := by
  obtain ⟨i0, hi, hz0, hz1, hz2⟩ := info_parts info_bool
  have hn1 : K.length ≤ 9223372036854775807 := by unfold maxLen at hn0; omega
  have HMk : Hid (∀ W, Below w.heap.size w W → Calls Try.prog 8 #[.slice p K.length c] W fun e w' => TrP W (mkK K) (mkE K) e w') := Lib.hid fun W hW => make_any (c := c) (h.below hW) hn1 hkb
  obtain ⟨n, hn⟩ : ∃ n, n = K.length := ⟨_, rfl⟩
  rw [← hn] at HMk ⊢
  by_cases hm : 1 ≤ n ∧ n ≤ 256
  case neg =>
    have hE : mkE K = 1 := by unfold mkE; rw [if_neg (by rw [← hn]; exact hm)]
    have hK2 : mkK K = [] := by unfold mkK; rw [if_neg (by rw [← hn]; exact hm)]
    rw [hE, hK2] at HMk
    clear h hkb hn0 hn1 hE hK2 hi hz0 hz1 hz2
    by_cases h0 : n = 0
    · subst h0
      clear hm hn
      go_enter Try.func5, Try.ntmps5
      go_wp2_with fail
      refine (lives_any _).mono ?_
      rintro e w1 ⟨rfl, b1⟩
      have B1 := Lib.hid b1
      clear b1
      go_wp2_with fail
      refine (HMk.out _ B1.out).mono ?_
      rintro e w2 ⟨p1, c1, q1, d1, rfl, _, b2⟩
      have B2 := Lib.hid ((B1.out.trans (b2.mono B1.out.size)))
      clear b2
      go_wp2_with fail
      go_ret
      exact ⟨rfl, B2.out.alloc B2.out.size _⟩
    · have h2 : 256 < n := by omega
      have t : ((n : Int) == 0) = false := by rw [beq_eq_false_iff_ne]; omega
      clear hm hn
      go_enter Try.func5, Try.ntmps5
      go_wp2_with fail
      refine (lives_any _).mono ?_
      rintro e w1 ⟨rfl, b1⟩
      have B1 := Lib.hid b1
      clear b1
      go_wp2_with fail
      refine (HMk.out _ B1.out).mono ?_
      rintro e w2 ⟨p1, c1, q1, d1, rfl, _, b2⟩
      have B2 := Lib.hid ((B1.out.trans (b2.mono B1.out.size)))
      clear b2
      go_wp2_with fail
      go_ret
      exact ⟨ret_bool (decide_eq_true (by omega)), B2.out.alloc B2.out.size _⟩
  case pos =>
    have hE : mkE K = 0 := by unfold mkE; rw [if_pos (by rw [← hn]; exact hm)]
    have hK2 : mkK K = K := by unfold mkK; rw [if_pos (by rw [← hn]; exact hm)]
    rw [hE, hK2] at HMk
    have hul : (up (build K)).length = n := by rw [up_length, build_length, hn]
    have HKe : Hid (∀ W, Below w.heap.size w W → ∀ j, j < n → ∃ (a : Addr) (q : Option Addr) (d : Nat), p = some a ∧ W.cell? (a.add j) = some (.slice q (kat K j).length d) ∧ Rd W q (nums (kat K j))) := Lib.hid fun W hW j hj => by
      obtain ⟨a, q, d, e, _, hc, hr, _⟩ := (h.below hW) j (by rw [← hn]; exact hj)
      exact ⟨a, q, d, e, hc, hr⟩
    have HKB : Hid (∀ j, j < n → (kat K j).length ≤ 17592186044416) := Lib.hid fun j hj => hkb j (by rw [← hn]; exact hj)
    have HKBc : Hid (∀ D, Kb (cur K D)) := Lib.hid fun D => kb_cur hkb
    have HN := Lib.hid hn; have HUL := Lib.hid hul
    have h1 := hm.1
    have h2 := hm.2
    have hmk : ∀ W : World, (Instr.makeSlice 43 (.int .i64 (n : Int)) (.int .i64 (n : Int))).run Try.prog W = .ok (.slice (some ⟨W.heap.size, 0, none⟩) n n) (W.alloc (.cells (madeCells (Value.bool false).cells (n * 1)) 4)) := fun W => by
      have := run_make (P := Try.prog) W 43 4 i0 (.bool false) Try.underlying43 hi hz0 .i64 .i64 (n : Int) (n : Int) (by omega) (by omega) (by rw [hz2]; omega) (by omega)
      rw [hz1] at this
      simpa using this
    obtain ⟨M, hM⟩ : ∃ M, M = madeCells (Value.bool false).cells (n * 1) := ⟨_, rfl⟩
    have hM1 : M.toList = bs (List.replicate n false) := by rw [hM]; exact falses n
    have hM2 : M.size = n := by rw [hM, size_madeCells]; omega
    rw [← hM] at hmk
    have HM1 := Lib.hid hM1; have HM2 := Lib.hid hM2
    clear h hkb hn0 hn1 hE hK2 hi hz0 hz1 hz2 hm hul hM hM1 hM2 hn
    go_enter Try.func5, Try.ntmps5
    go_wp2_with fail
    refine (lives_any _).mono ?_
    rintro e w1 ⟨rfl, b1⟩
    have B1 := Lib.hid b1
    clear b1
    go_wp2_with fail
    refine (HMk.out _ B1.out).mono ?_
    rintro e w2 ⟨p1, c1, q1, d1, rfl, hls, b2⟩
    rw [HUL.out, ← HN.out]
    obtain ⟨W3, hW3⟩ : ∃ W, W = w2.alloc (.cells #[.slice p1 n c1, .slice q1 n d1] 25) := ⟨_, rfl⟩
    obtain ⟨W4, hW4⟩ : ∃ W, W = W3.alloc (.cells M 4) := ⟨_, rfl⟩
    have k3 : Below w2.heap.size w2 W3 := by rw [hW3]; exact (Below.refl _ _).alloc (Nat.le_refl _) _
    have k4 : Below W3.heap.size W3 W4 := by rw [hW4]; exact (Below.refl _ _).alloc (Nat.le_refl _) _
    have s3 : W3.heap.size = w2.heap.size + 1 := by rw [hW3]; simp
    have x3 := Bx.new w2 #[.slice p1 n c1, .slice q1 n d1] 25
    rw [← hW3] at x3
    have hB2 := B1.out.trans (b2.mono B1.out.size)
    have hB4 : Below w.heap.size w W4 := (hB2.trans (k3.mono hB2.size)).trans (k4.mono (Nat.le_trans hB2.size k3.size))
    have row4 : W4.ownsRow w.heap.size 4 1 (.slice (some ⟨W3.heap.size, 0, none⟩) n n) n (bs (List.replicate n false)) := by
      rw [hW4, ← HM1.out]
      exact World.ownsRow_lit (e := 4) (base := w.heap.size) (size := 1) W3 M n (Nat.le_trans hB2.size k3.size) (by unfold maxLen; omega) (by rw [HM2.out]; omega)
    have so0 : SoI w W4 K w2.heap.size W3.heap.size n p1 q1 c1 d1 (List.replicate n false) := by
      refine ⟨x3.below k4, fun W'' P hbr hP => ?_, row4, by omega, hB4⟩
      rw [HN.out, cur_none]
      have hw2 : Below w2.heap.size w2 W4 := k3.trans (k4.mono k3.size)
      exact hls.below (hw2.trans (hbr.below (fun k _ h => by rcases hP k h with h | h <;> omega) hw2.size))
    have td0 := Told.start K
    rw [← HN.out] at td0
    have SO := Lib.hid so0; have TD := Lib.hid td0; have HW3 := Lib.hid hW3; have HW4 := Lib.hid hW4; have S3 := Lib.hid s3; have HB2 : Hid (w.heap.size ≤ w2.heap.size) := Lib.hid hB2.size
    clear b2 hls hW3 hW4 k3 k4 s3 x3 hB2 hB4 row4 so0 td0 HM1 HM2 HMk
    go_wp2_with fail
    rw [← HW3.out, ← S3.out, ← HW4.out]
    obtain ⟨bt, hbt⟩ : ∃ b, b = w2.heap.size := ⟨_, rfl⟩
    obtain ⟨gD, hgD⟩ : ∃ b, b = W3.heap.size := ⟨_, rfl⟩
    rw [← hbt, ← hgD] at SO ⊢
    have BTw : Hid (w.heap.size ≤ bt) := Lib.hid (by rw [hbt]; exact HB2.out)
    clear HW3 HW4 S3 hbt hgD hmk HB2
    go_loopw [2, 6, 7, 8, 9, 10, 11] (fun _ l a v _ _ _ wr => ∃ (m : Nat) (D : List Bool) (x : List Nat) (at_ : Int) (q : Option Addr) (cq : Nat) (pt qt : Option Addr) (ct dt : Nat), m ≤ n ∧ l = .slice q x.length cq ∧ a = .int .i64 at_ ∧ v = .int .i64 m ∧ Rd wr q (nums x) ∧ x.length ≤ 17592186044416 ∧ Told K D x at_ m ∧ SoI w wr K bt gD n pt qt ct dt D) (fun _ _ _ v _ _ _ _ => n - (intOf v).toNat)
    case atStart => exact ⟨0, _, [], -1, none, 0, _, _, _, _, by omega, rfl, rfl, rfl, Rd.nil _ _, by simp, TD.out, SO.out⟩
    case round =>
      obtain ⟨m, D, x, at_, q, cq, pt, qt, ct, dt, hm, rfl, rfl, rfl, hrx, hxl, htd, hso⟩ := hrel
      by_cases hlt : m < n
      · have hcl : (cur K D).length = n := by rw [cur_length, ← HN.out]
        have hTl : (up (build (cur K D))).length = n := by rw [up_length, build_length, hcl]
        have v0 := hso.box.cell 0 (by simp)
        have v1 := hso.box.cell 1 (by simp)
        simp only [List.getD_cons_zero, List.getD_cons_succ] at v0 v1
        have hchk : chk (cur K D) (up (build (cur K D))) = 0 := by unfold chk; rw [if_pos ⟨by rw [hcl]; exact ⟨h1, h2⟩, rfl⟩]
        have HTo : Hid (Calls Try.prog 13 #[.agg #[.slice pt n ct, .slice qt n dt]] wr fun e w' => TopQ wr (cur K D) (up (build (cur K D))) e w') := Lib.hid (by
          have := topN_any (c := ct) (d := dt) hso.at (HKBc.out D)
          rw [hcl, hTl] at this
          exact this)
        have HSO := Lib.hid hso; have HTD := Lib.hid htd
        obtain ⟨i, hi⟩ : ∃ i, i = wn (cur K D) 1 := ⟨_, rfl⟩
        by_cases hk : kat (cur K D) i = []
        · have hE : topE (cur K D) (up (build (cur K D))) = 3 := by unfold topE; rw [if_pos hchk, ← hi, if_pos hk]
          have hI : topI (cur K D) (up (build (cur K D))) = 0 := by unfold topI; rw [if_neg (by rw [hE]; decide)]
          have hKK : topK (cur K D) (up (build (cur K D))) = [] := by unfold topK; rw [if_neg (by rw [hE]; decide)]
          have HEnd := Lib.hid (htd.out (by rw [← hi]; exact hk))
          have HDL : Hid (D.length = n) := Lib.hid (by rw [htd.len, ← HN.out])
          clear hcl hTl hchk hk hi hso htd TD SO HKBc
          go_wp2_with fail
          refine HTo.out.mono ?_
          rintro e w5 ⟨q5, c5, rfl, _, _, b5⟩
          rw [hE, hI, hKK]
          have HSO5 := Lib.hid (HSO.out.below b5)
          clear HTo b5 HSO hE hI hKK v0 v1 hrx
          go_wp2_with fail
          go_loopw [2, 12, 13, 100] (fun _ _ _ v wr' => ∃ j : Nat, j ≤ n ∧ v = .int .i64 j ∧ wr' = w5) (fun _ _ _ v _ => n - (intOf v).toNat)
          case atStart => exact ⟨0, by omega, rfl, rfl⟩
          case round =>
            obtain ⟨j, hj, rfl, rfl⟩ := hrel
            by_cases hjl : j < n
            · obtain ⟨a, qy, dy, rfl, cy, _⟩ := HKe.out _ HSO5.out.bel j hjl
              have cd := (HSO5.out.cell (i := j) (by rw [HDL.out]; exact hjl)).1
              rw [HEnd.out j (by rw [← HN.out]; exact hjl)] at cd
              obtain ⟨ly, hly⟩ : ∃ ly, ly = (kat K j).length := ⟨_, rfl⟩
              rw [← hly] at cy cd
              have j0 : (0 : Int) ≤ (j : Int) := by omega
              have j1 : (j : Int) < (n : Int) := by omega
              clear hly
              by_cases hy0 : ly = 0
              · subst hy0
                rw [decide_eq_false (by omega)] at cd
                go_wp2_with fail
                go_roundw
                case rel => exact ⟨j + 1, by omega, by go_num, by first | trivial | rfl⟩
                case measure => simp [intOf]; omega
              · rw [decide_eq_true (by omega)] at cd
                have t : decide (0 < ly) = true := decide_eq_true (by omega)
                go_wp2_with fail
                go_roundw
                case rel => exact ⟨j + 1, by omega, by go_num, by first | trivial | rfl⟩
                case measure => simp [intOf]; omega
            · obtain rfl : n = j := by omega
              have HBEL := Lib.hid HSO5.out.bel
              go_wp2_with fail
              go_ret
              exact ⟨rfl, HBEL.out⟩
        · obtain ⟨g1, g2, g3, g4, g5, g6⟩ := htd.next (by rw [← HN.out]; exact h1) hi hk
          have hin : i < n := by rw [HN.out]; exact g1
          have hE : topE (cur K D) (up (build (cur K D))) = 0 := by unfold topE; rw [if_pos hchk, ← hi, if_neg hk]
          have hI : topI (cur K D) (up (build (cur K D))) = (i : Nat) := by unfold topI; rw [if_pos hE, ← hi]
          have hKK : topK (cur K D) (up (build (cur K D))) = kat K i := by unfold topK; rw [if_pos hE, ← hi, g3]
          have hap : apE (cur K D) (up (build (cur K D))) [] = 0 ∧ apK (cur K D) (up (build (cur K D))) [] = cur K (D.set i true) := by
            have h0 : pe (cur K D) [] = 0 := by
              unfold pe; rw [← hi, if_neg hk, if_neg (fun h => h.1 rfl)]
            refine ⟨by unfold apE; rw [if_pos hchk]; exact h0, ?_⟩
            unfold apK; rw [if_pos hchk]
            unfold pk; rw [if_pos h0, ← hi]
            exact cur_set g1 htd.len
          obtain ⟨y, hy⟩ : ∃ y, y = kat K i := ⟨_, rfl⟩
          have hyl : y.length ≤ 17592186044416 := by rw [hy]; exact HKB.out i hin
          rw [← hy] at g4 g5 g6 hKK
          have HTN := Lib.hid g6; have G5 := Lib.hid g5
          have HY := Lib.hid hy
          have HSD : Hid (Told K (D.set i true) y i (m + 1)) := HTN
          have HD0 := Lib.hid g2
          have HAP := Lib.hid hap; have HCL := Lib.hid hcl; have HTL := Lib.hid hTl
          have HXL := Lib.hid hxl; have HYL := Lib.hid hyl; have HRX := Lib.hid hrx
          have HDL : Hid (D.length = n) := Lib.hid (by rw [htd.len, ← HN.out])
          have G4 := Lib.hid g4
          clear hcl hTl hchk hk hi hso htd TD SO g1 g2 g3 g4 g5 g6 hap hy hyl hxl hrx
          go_wp2_with fail
          refine HTo.out.mono ?_
          rintro e w5 ⟨q5, c5, rfl, hr5, hnew5, b5⟩
          rw [hKK] at hr5
          rw [hE, hI, hKK]
          have hso5 := HSO.out.below b5
          have HSO5 := Lib.hid hso5
          have hrx5 := HRX.out.below b5
          obtain ⟨a, qk, dk, rfl, ck, hrk⟩ := HKe.out w5 hso5.bel i hin
          rw [← HY.out] at ck hrk
          have cD := (hso5.cell (i := i) (by rw [HDL.out]; exact hin)).1
          rw [HD0.out] at cD
          have fD := (hso5.cell (i := i) (by rw [HDL.out]; exact hin)).2
          obtain ⟨lx, hlx⟩ : ∃ lx, lx = x.length := ⟨_, rfl⟩
          obtain ⟨ly, hly⟩ : ∃ ly, ly = y.length := ⟨_, rfl⟩
          have HS1 : Hid (Calls Try.prog 19 #[.slice q5 ly c5, .slice qk ly dk] w5 fun e w' => e = .returned (.bool true) ∧ ∃ j, w' = w5.drewN j) := Lib.hid (by
            have := sameOne_any y y q5 qk c5 dk w5 hr5 hrk (by have := HYL.out; omega) (by have := HYL.out; omega)
            rw [decide_eq_true rfl, ← hly] at this
            exact this)
          have HLs : Hid (∀ z, Calls Try.prog 23 #[.slice q5 ly c5, .slice q lx cq] (w5.drewN z) fun e w' => e = .returned (.bool false) ∧ w5.drewN z = w') := Lib.hid fun z => by
            have := less_any y x q5 q c5 cq _ (hr5.drewN z) (hrx5.drewN z) (by have := HYL.out; omega) (by have := HXL.out; omega)
            rw [G4.out, ← hly, ← hlx] at this
            exact this
          obtain ⟨s, hs⟩ : ∃ s, s = decide (y = x) := ⟨_, rfl⟩
          have HS2 : Hid (∀ z, Calls Try.prog 19 #[.slice q5 ly c5, .slice q lx cq] (w5.drewN z) fun e w' => e = .returned (.bool s) ∧ ∃ j, w' = (w5.drewN z).drewN j) := Lib.hid fun z => by
            have := sameOne_any y x q5 q c5 cq _ (hr5.drewN z) (hrx5.drewN z) (by have := HYL.out; omega) (by have := HXL.out; omega)
            rw [← hs, ← hly, ← hlx] at this
            exact this
          have HAT : Hid (s = true → at_ ≤ (i : Int)) := Lib.hid fun e => by have := G5.out (by rw [hs] at e; simpa using e); omega
          have HR5 := Lib.hid hr5; have HLY := Lib.hid hly
          rw [← hlx, ← hly]
          rw [← hly] at ck
          have hsz5 := b5.size
          have hbtl := HSO.out.box.lt
          have hgDl := (HSO.out.row.lt gD rfl).2
          have hoff := HSO.out.off
          have hne1 : ¬ (gD = bt) := fun e => hoff e.symm
          have hne2 : ¬ (bt = gD) := hoff
          have w0 := hso5.box.cell 0 (by simp)
          have w1' := hso5.box.cell 1 (by simp)
          simp only [List.getD_cons_zero, List.getD_cons_succ] at w0 w1'
          have hDi : (cur K (D.set i true)).length = n := by rw [cur_length, ← HN.out]
          have hTi : (up (build (cur K (D.set i true)))).length = n := by rw [up_length, build_length, hDi]
          have HCL2 := Lib.hid hDi; have HTL2 := Lib.hid hTi
          have HTell : Hid (∀ z, _) := Lib.hid fun z => (HSO5.out.below (below_drewN (Below.refl _ w5) z)).tell i
          have HPut : Hid (∀ z, Calls Try.prog 15 #[.agg #[.slice pt n ct, .slice qt n dt], .slice none 0 0] ((w5.drewN z).setCell ⟨gD, i, none⟩ (.bool true)) fun e w' => TrQ ((w5.drewN z).setCell ⟨gD, i, none⟩ (.bool true)) (cur K (D.set i true)) 0 e w') := Lib.hid fun z => by
            have := aputN_any (c := ct) (d := dt) (qx := none) (dx := 0) (x := []) (HTell.out z).2.1 (HKBc.out D) (Rd.nil _ _) (by simp)
            rw [HCL.out, HTL.out, HAP.out.1, HAP.out.2] at this
            exact this
          have HNEW : Hid (∀ a, q5 = some a → a.block ≠ gD ∧ a.block ≠ bt) := Lib.hid fun a e => by have := hnew5 a e; omega
          clear hbtl hgDl hoff hsz5 hDi hTi hnew5
          have i0 : (0 : Int) ≤ (i : Int) := by omega
          have i1 : (i : Int) < (n : Int) := by omega
          have t2 : decide (n ≤ i) = false := decide_eq_false (by omega)
          clear hso5 hrx5 hrk hr5 hs hlx hly b5 HTo HSO hE hI hKK v0 v1 HTN HD0
          go_wp2_with fail
          refine HS1.out.mono ?_
          rintro e w6 ⟨rfl, j1, rfl⟩
          go_wp2_with fail
          refine (HLs.out _).mono ?_
          rintro e w6 ⟨rfl, rfl⟩
          go_wp2_with fail
          refine (HS2.out _).mono ?_
          rintro e w6 ⟨rfl, j2, rfl⟩
          obtain ⟨jj, hjj⟩ : ∃ jj, jj = j1 + j2 := ⟨_, rfl⟩
          have cD2 : w5.cell? ⟨gD, i, none⟩ = some (.bool false) := cD
          cases s with
          | true =>
            have t3 : decide ((i : Int) < at_) = false := decide_eq_false (by have := HAT.out rfl; omega)
            clear HS1 HLs HS2 HAT
            go_wp2_with fail
            refine (HPut.out _).mono ?_
            rintro e w7 ⟨p7, c7, q7, d7, rfl, hls7, b7⟩
            rw [HCL2.out, HTL2.out]
            have tl := HTell.out (j1 + j2)
            have hx7 := tl.1.below b7
            have x0 := hx7.cell 0 (by simp)
            have x1 := hx7.cell 1 (by simp)
            simp only [List.getD_cons_zero, List.getD_cons_succ] at x0 x1
            have y0 := hx7.free 0 (by simp)
            have y1 := hx7.free 1 (by simp)
            have HS7 := Lib.hid (SoI.put (c := c7) (d := d7) tl.1 BTw.out hne2 tl.2.2.1 tl.2.2.2 hls7 b7)
            have HRd : Hid (∀ a b, Rd ((w7.setCell ⟨bt, 0, none⟩ a).setCell ⟨bt, 1, none⟩ b) q5 (nums y)) := Lib.hid (by
              intro a b
              have hb6 : Bar (w5.drewN (j1 + j2)) ((w5.drewN (j1 + j2)).setCell ⟨gD, i, none⟩ (.bool true)) (fun k => k = gD) := (Bar.refl _ (fun k => k = gD)).setCell rfl _
              have hr6 := (Rd.bar (HR5.out.drewN (j1 + j2)) hb6 (fun a e => (HNEW.out a e).1)).below b7
              exact Rd.bar hr6 (((Bar.refl w7 (fun k => k = bt)).setCell (q := ⟨bt, 0, none⟩) rfl a).setCell (q := ⟨bt, 1, none⟩) rfl b) (fun a e => (HNEW.out a e).2))
            clear tl hx7 hls7 b7 w0 w1' cD cD2 ck
            go_wp2_with fail
            refine ⟨⟨m + 1, _, y, _, _, _, _, _, _, _, by omega, by rw [← HLY.out], rfl, by go_num, HRd.out _ _, HYL.out, HSD.out, HS7.out⟩, ?_⟩
            simp [intOf]
            omega
          | false =>
            clear HS1 HLs HS2 HAT
            go_wp2_with fail
            refine (HPut.out _).mono ?_
            rintro e w7 ⟨p7, c7, q7, d7, rfl, hls7, b7⟩
            rw [HCL2.out, HTL2.out]
            have tl := HTell.out (j1 + j2)
            have hx7 := tl.1.below b7
            have x0 := hx7.cell 0 (by simp)
            have x1 := hx7.cell 1 (by simp)
            simp only [List.getD_cons_zero, List.getD_cons_succ] at x0 x1
            have y0 := hx7.free 0 (by simp)
            have y1 := hx7.free 1 (by simp)
            have HS7 := Lib.hid (SoI.put (c := c7) (d := d7) tl.1 BTw.out hne2 tl.2.2.1 tl.2.2.2 hls7 b7)
            have HRd : Hid (∀ a b, Rd ((w7.setCell ⟨bt, 0, none⟩ a).setCell ⟨bt, 1, none⟩ b) q5 (nums y)) := Lib.hid (by
              intro a b
              have hb6 : Bar (w5.drewN (j1 + j2)) ((w5.drewN (j1 + j2)).setCell ⟨gD, i, none⟩ (.bool true)) (fun k => k = gD) := (Bar.refl _ (fun k => k = gD)).setCell rfl _
              have hr6 := (Rd.bar (HR5.out.drewN (j1 + j2)) hb6 (fun a e => (HNEW.out a e).1)).below b7
              exact Rd.bar hr6 (((Bar.refl w7 (fun k => k = bt)).setCell (q := ⟨bt, 0, none⟩) rfl a).setCell (q := ⟨bt, 1, none⟩) rfl b) (fun a e => (HNEW.out a e).2))
            clear tl hx7 hls7 b7 w0 w1' cD cD2 ck
            go_wp2_with fail
            refine ⟨⟨m + 1, _, y, _, _, _, _, _, _, _, by omega, by rw [← HLY.out], rfl, by go_num, HRd.out _ _, HYL.out, HSD.out, HS7.out⟩, ?_⟩
            simp [intOf]
            omega
      · obtain rfl : n = m := by omega
        have HEnd := Lib.hid (htd.full HN.out)
        have HDL : Hid (D.length = n) := Lib.hid (by rw [htd.len, ← HN.out])
        have HSO5 := Lib.hid hso
        clear hso htd TD SO HKBc hrx hxl
        go_wp2_with fail
        go_loopw [2, 12, 13, 100] (fun _ _ _ v wr' => ∃ j : Nat, j ≤ n ∧ v = .int .i64 j ∧ wr' = wr) (fun _ _ _ v _ => n - (intOf v).toNat)
        case atStart => exact ⟨0, by omega, rfl, rfl⟩
        case round =>
          obtain ⟨j, hj, rfl, rfl⟩ := hrel
          by_cases hjl : j < n
          · obtain ⟨a, qy, dy, rfl, cy, _⟩ := HKe.out _ HSO5.out.bel j hjl
            have cd := (HSO5.out.cell (i := j) (by rw [HDL.out]; exact hjl)).1
            rw [HEnd.out j (by rw [← HN.out]; exact hjl)] at cd
            obtain ⟨ly, hly⟩ : ∃ ly, ly = (kat K j).length := ⟨_, rfl⟩
            rw [← hly] at cy cd
            have j0 : (0 : Int) ≤ (j : Int) := by omega
            have j1 : (j : Int) < (n : Int) := by omega
            clear hly
            by_cases hy0 : ly = 0
            · subst hy0
              rw [decide_eq_false (by omega)] at cd
              go_wp2_with fail
              go_roundw
              case rel => exact ⟨j + 1, by omega, by go_num, by first | trivial | rfl⟩
              case measure => simp [intOf]; omega
            · rw [decide_eq_true (by omega)] at cd
              have t : decide (0 < ly) = true := decide_eq_true (by omega)
              go_wp2_with fail
              go_roundw
              case rel => exact ⟨j + 1, by omega, by go_num, by first | trivial | rfl⟩
              case measure => simp [intOf]; omega
          · obtain rfl : n = j := by omega
            have HBEL := Lib.hid HSO5.out.bel
            go_wp2_with fail
            go_ret
            exact ⟨rfl, HBEL.out⟩
end
end Go.Proofs.Ythkgdjclgphodaa.Ls
