/- The walks of Sectors, Make, seen, Read. -/
import Derived.Test.YtgpheofdeflhdaaDkWalkE
import Derived.Laws.Strings2
import Derived.Laws.ResultCell
namespace Go.Proofs.Ytgpheofdeflhdaa.Dk
open Go.RowKit Go.Op

def secA (z : Int) (E : List Ext) (L : List Wr) (fz : Int) (dn : Bool) (b : ByteArray) : Int := if readyE z E L fz dn = 0 then (lookN E b : Nat) else 0
def secE (z : Int) (E : List Ext) (L : List Wr) (fz : Int) (dn : Bool) (b : ByteArray) : Int := if readyE z E L fz dn = 0 then (if isAt E b = true then 0 else 3) else readyE z E L fz dn
/-- a disk without extents -/
def mkV (z : Int) : Value := .tuple #[.agg #[.int .i64 z, .slice none 0 0, .slice none 0 0, .int .i64 (-1), .bool false], .int .i64 0]
def mkO : Value := .tuple #[.agg #[.int .i64 0, .slice none 0 0, .slice none 0 0, .int .i64 0, .bool false], .int .i64 1]
def mkR (z : Int) : Value := if decide (0 ≤ z) && decide (z ≤ 16384) then mkV z else mkO
theorem extAt_nil (w : World) (p : Option Addr) : ExtAt w p [] := fun i h => absurd h (by simp)
theorem wrsAt_nil (w : World) (p : Option Addr) : WrsAt w p [] := fun i h => absurd h (by simp)
theorem chk_new (z : Int) : chkE z [] [] (-1) = if decide (0 ≤ z) && decide (z ≤ 16384) then 0 else 2 := by
  unfold chkE chkB
  simp [exR, wtR]
set_option maxHeartbeats 4000000 in
set_option maxRecDepth 100000 in
theorem Make_any (z : Int) (w : World) : Calls Try.prog 6 #[.int .i64 z] w fun e w' => e = .returned (mkR z) ∧ Below w.heap.size w w' := by
  have hbx : Below w.heap.size w (w.alloc (.cells #[.int .i64 0, .slice none 0 0, .slice none 0 0, .int .i64 0, .bool false] 31)) := (Below.refl _ _).alloc (Nat.le_refl _) _
  have hbx2 := hbx.alloc (by simp) (.cells #[.int .i64 z, .slice none 0 0, .slice none 0 0, .int .i64 (-1), .bool false] 31)
  have HC := chk_new z
  have HB0 := (Boxed.new w #[.int .i64 0, .slice none 0 0, .slice none 0 0, .int .i64 0, .bool false] 31).below ((Below.refl _ _).alloc (Nat.le_refl _) (.cells #[.int .i64 z, .slice none 0 0, .slice none 0 0, .int .i64 (-1), .bool false] 31))
  have HB1 := Boxed.new (w.alloc (.cells #[.int .i64 0, .slice none 0 0, .slice none 0 0, .int .i64 0, .bool false] 31)) #[.int .i64 z, .slice none 0 0, .slice none 0 0, .int .i64 (-1), .bool false] 31
  have hz1 : (w.alloc (.cells #[.int .i64 0, .slice none 0 0, .slice none 0 0, .int .i64 0, .bool false] 31)).heap.size = w.heap.size + 1 := by simp
  rw [hz1] at HB1
  have HX0 := Lib.hid HB0; have HX1 := Lib.hid HB1; have H2 := Lib.hid hbx2
  clear HB0 HB1 hbx2 hbx hz1
  cases hc : (decide (0 ≤ z) && decide (z ≤ 16384)) with
  | true =>
    rw [hc, if_pos rfl] at HC
    have F : Hid (mkV z = mkR z) := Lib.hid (by unfold mkR; rw [hc]; rfl)
    have H0 := Lib.hid HC
    clear HC hc
    go_enter Try.func6, Try.ntmps6
    go_wp2_with fail
    refine (check_any z none none 0 0 0 0 (-1) false [] [] _ rfl (extAt_nil _ _) (by omega) rfl (wrsAt_nil _ _) (by omega)).mono ?_
    rw [H0.out]
    rintro e w1 ⟨rfl, b1⟩
    have B := Lib.hid (H2.out.trans (b1.mono H2.out.size))
    have e0 := HX0.out.below b1
    have e1 := HX1.out.below b1
    have q0 : w1.cell? ⟨w.heap.size, 0, none⟩ = some (.int .i64 0) := e0.cell 0 (by simp)
    have q1 : w1.cell? ⟨w.heap.size, 1, none⟩ = some (.slice none 0 0) := e0.cell 1 (by simp)
    have q2 : w1.cell? ⟨w.heap.size, 2, none⟩ = some (.slice none 0 0) := e0.cell 2 (by simp)
    have q3 : w1.cell? ⟨w.heap.size, 3, none⟩ = some (.int .i64 0) := e0.cell 3 (by simp)
    have q4 : w1.cell? ⟨w.heap.size, 4, none⟩ = some (.bool false) := e0.cell 4 (by simp)
    have p0 : w1.cell? ⟨w.heap.size + 1, 0, none⟩ = some (.int .i64 z) := e1.cell 0 (by simp)
    have p1 : w1.cell? ⟨w.heap.size + 1, 1, none⟩ = some (.slice none 0 0) := e1.cell 1 (by simp)
    have p2 : w1.cell? ⟨w.heap.size + 1, 2, none⟩ = some (.slice none 0 0) := e1.cell 2 (by simp)
    have p3 : w1.cell? ⟨w.heap.size + 1, 3, none⟩ = some (.int .i64 (-1)) := e1.cell 3 (by simp)
    have p4 : w1.cell? ⟨w.heap.size + 1, 4, none⟩ = some (.bool false) := e1.cell 4 (by simp)
    have f0 : w1.frozen? ⟨w.heap.size, 0, none⟩ = false := e0.free 0 (by simp)
    have f1 : w1.frozen? ⟨w.heap.size, 1, none⟩ = false := e0.free 1 (by simp)
    have f2 : w1.frozen? ⟨w.heap.size, 2, none⟩ = false := e0.free 2 (by simp)
    have f3 : w1.frozen? ⟨w.heap.size, 3, none⟩ = false := e0.free 3 (by simp)
    have f4 : w1.frozen? ⟨w.heap.size, 4, none⟩ = false := e0.free 4 (by simp)
    have hsz := e0.lt
    clear b1 e0 e1
    go_wp2_with fail
    (try simp only [Exit.inBlock, Exit.then])
    refine bodyPost_ret (v := mkV z) ?_ rfl ⟨by rw [F.out], ?_⟩
    · rw [results_cell_tmp rfl]
      go_simp
      rfl
    · exact ((((B.out.setCell (Nat.le_refl _) _).setCell (Nat.le_refl _) _).setCell (Nat.le_refl _) _).setCell (Nat.le_refl _) _).setCell (Nat.le_refl _) _
  | false =>
    rw [hc, if_neg (by simp)] at HC
    have F : Hid (mkO = mkR z) := Lib.hid (by unfold mkR; rw [hc]; rfl)
    have H0 := Lib.hid HC
    clear HC hc
    go_enter Try.func6, Try.ntmps6
    go_wp2_with fail
    refine (check_any z none none 0 0 0 0 (-1) false [] [] _ rfl (extAt_nil _ _) (by omega) rfl (wrsAt_nil _ _) (by omega)).mono ?_
    rw [H0.out]
    rintro e w1 ⟨rfl, b1⟩
    have B := Lib.hid (H2.out.trans (b1.mono H2.out.size))
    have e0 := HX0.out.below b1
    have e1 := HX1.out.below b1
    have q0 : w1.cell? ⟨w.heap.size, 0, none⟩ = some (.int .i64 0) := e0.cell 0 (by simp)
    have q1 : w1.cell? ⟨w.heap.size, 1, none⟩ = some (.slice none 0 0) := e0.cell 1 (by simp)
    have q2 : w1.cell? ⟨w.heap.size, 2, none⟩ = some (.slice none 0 0) := e0.cell 2 (by simp)
    have q3 : w1.cell? ⟨w.heap.size, 3, none⟩ = some (.int .i64 0) := e0.cell 3 (by simp)
    have q4 : w1.cell? ⟨w.heap.size, 4, none⟩ = some (.bool false) := e0.cell 4 (by simp)
    have p0 : w1.cell? ⟨w.heap.size + 1, 0, none⟩ = some (.int .i64 z) := e1.cell 0 (by simp)
    have p1 : w1.cell? ⟨w.heap.size + 1, 1, none⟩ = some (.slice none 0 0) := e1.cell 1 (by simp)
    have p2 : w1.cell? ⟨w.heap.size + 1, 2, none⟩ = some (.slice none 0 0) := e1.cell 2 (by simp)
    have p3 : w1.cell? ⟨w.heap.size + 1, 3, none⟩ = some (.int .i64 (-1)) := e1.cell 3 (by simp)
    have p4 : w1.cell? ⟨w.heap.size + 1, 4, none⟩ = some (.bool false) := e1.cell 4 (by simp)
    have f0 : w1.frozen? ⟨w.heap.size, 0, none⟩ = false := e0.free 0 (by simp)
    have f1 : w1.frozen? ⟨w.heap.size, 1, none⟩ = false := e0.free 1 (by simp)
    have f2 : w1.frozen? ⟨w.heap.size, 2, none⟩ = false := e0.free 2 (by simp)
    have f3 : w1.frozen? ⟨w.heap.size, 3, none⟩ = false := e0.free 3 (by simp)
    have f4 : w1.frozen? ⟨w.heap.size, 4, none⟩ = false := e0.free 4 (by simp)
    have hsz := e0.lt
    clear b1 e0 e1
    go_wp2_with fail
    (try simp only [Exit.inBlock, Exit.then])
    refine bodyPost_ret (v := mkO) ?_ rfl ⟨by rw [F.out], ?_⟩
    · rw [results_cell_tmp rfl]
      go_simp
      rfl
    · exact ((((B.out.setCell (Nat.le_refl _) _).setCell (Nat.le_refl _) _).setCell (Nat.le_refl _) _).setCell (Nat.le_refl _) _).setCell (Nat.le_refl _) _

/-- what waits last for a sector -/
def seenF (L : List Wr) (n : ByteArray) (c : Int) : Nat → Option ByteArray
  | 0 => none
  | j + 1 => if (L.getD j default).2.1 = c ∧ (L.getD j default).1 = n then some (L.getD j default).2.2 else seenF L n c j
def seenO (L : List Wr) (n y : ByteArray) (c : Nat) (j : Nat) : ByteArray := match seenF L n c j with
  | some d => d
  | none => y.extract (c * 64) ((c + 1) * 64)
theorem ret_str {a b : ByteArray} (h : a = b) : Ending.returned (.string a) = .returned (.string b) := by rw [h]

set_option maxHeartbeats 4000000 in
set_option maxRecDepth 100000 in
theorem seen_any (z : Int) (pE pW : Option Addr) (nE cE nW cW : Nat) (fz : Int) (dn : Bool) (E : List Ext) (L : List Wr) (k c : Nat) (x y : ByteArray) (w : World) (hn : nE = E.length) (h : ExtAt w pE E) (hk : k < nE) (hx : x = (E.getD k default).1) (hy : y = (E.getD k default).2) (hc : (c + 1) * 64 ≤ y.size)
    (hnW : nW = L.length) (hW : WrsAt w pW L) (hLl : nW ≤ 1000000000) :
    Calls Try.prog 31 #[.agg #[.int .i64 z, .slice pE nE cE, .slice pW nW cW, .int .i64 fz, .bool dn], .int .i64 (k : Int), .int .i64 (c : Int)] w fun e w' => e = .returned (.string (seenO L x y c nW)) ∧ Below w.heap.size w w' := by
  have hbx : Below w.heap.size w (w.alloc (.cells #[.int .i64 z, .slice pE nE cE, .slice pW nW cW, .int .i64 fz, .bool dn] 31)) := (Below.refl _ _).alloc (Nat.le_refl _) _
  have hbx2 := hbx.alloc (by simp) (.cells #[.string x, .string y] 86)
  have HN := Lib.hid hn; have HNW := Lib.hid hnW
  have HE0 := h.below hbx
  have HW := Lib.hid (hW.below hbx2)
  have hb1 := (Boxed.new w #[.int .i64 z, .slice pE nE cE, .slice pW nW cW, .int .i64 fz, .bool dn] 31).below ((Below.refl _ _).alloc (Nat.le_refl _) (.cells #[.string x, .string y] 86))
  have hb2 := Boxed.new (w.alloc (.cells #[.int .i64 z, .slice pE nE cE, .slice pW nW cW, .int .i64 fz, .bool dn] 31)) #[.string x, .string y] 86
  have hz1 : ((w.alloc (.cells #[.int .i64 z, .slice pE nE cE, .slice pW nW cW, .int .i64 fz, .bool dn] 31))).heap.size = w.heap.size + 1 := by simp
  rw [hz1] at hb2
  have HB1 := Lib.hid hb1; have HB2 := Lib.hid hb2
  obtain ⟨W0, hW0⟩ : ∃ W0, W0 = ((w.alloc (.cells #[.int .i64 z, .slice pE nE cE, .slice pW nW cW, .int .i64 fz, .bool dn] 31))).alloc (.cells #[.string x, .string y] 86) := ⟨_, rfl⟩
  obtain ⟨g, o, rfl, hg, d0, d1, zz1, zz2⟩ := HE0 k (by rw [← hn]; exact hk)
  rw [← hx] at d0 zz1; rw [← hy] at d1 zz2
  have m0 : (0 : Int) ≤ (k : Int) := by omega
  have m1 : (k : Int) < (nE : Int) := by omega
  have HBX := Lib.hid hbx2
  clear h hn hW hnW hz1 hb1 hb2 hx hy HE0 hbx hbx2
  go_enter Try.func31, Try.ntmps31
  go_wp2_with fail
  rw [← hW0] at HBX HB1 HB2 HW ⊢
  clear hW0 d0 d1 hg m0 m1
  go_loopw [8, 9] (fun i _ wr => ∃ (j : Nat), j ≤ nW ∧ i = .int .i64 ((j : Int) - 1) ∧ seenO L x y c nW = seenO L x y c j ∧ Below W0.heap.size W0 wr) (fun i _ _ => (intOf i + 1).toNat)
  case atStart => exact ⟨nW, Nat.le_refl _, by go_num, rfl, Below.refl _ _⟩
  case round =>
    obtain ⟨j, hj, rfl, hs, hbl⟩ := hrel
    have hbW := hbl.size
    have e1 := HB1.out.below hbl
    have e2 := HB2.out.below hbl
    have q2 : wr.cell? ⟨w.heap.size, 2, none⟩ = some (.slice pW nW cW) := e1.cell 2 (by simp)
    have x0 : wr.cell? ⟨w.heap.size + 1, 0, none⟩ = some (.string x) := e2.cell 0 (by simp)
    have x1 : wr.cell? ⟨w.heap.size + 1, 1, none⟩ = some (.string y) := e2.cell 1 (by simp)
    have z0 : w.heap.size < wr.heap.size := e1.lt
    have z1 : w.heap.size + 1 < wr.heap.size := e2.lt
    clear e1 e2
    by_cases hj0 : j = 0
    · subst hj0
      have ez : ((0 : Nat) : Int) - 1 = -1 := by omega
      rw [ez]
      have F : Hid (y.extract (c * 64) ((c + 1) * 64) = seenO L x y c nW) := Lib.hid (by rw [hs]; rfl)
      have HBL := Lib.hid hbl
      have r1 : (0 : Int) ≤ (c : Int) * 64 := by omega
      have r2 : ((c : Int) + 1) * 64 ≤ (y.size : Int) := by omega
      have r3 : (y.size : Int) ≤ 140737488355328 := by omega
      have r4 : (c : Int) * 64 ≤ ((c : Int) + 1) * 64 := by omega
      have w1 : IntKind.i64.wrap ((c : Int) * 64) = (c : Int) * 64 := IntWalk.i64_in _ (by omega)
      have w2 : IntKind.i64.wrap (((c : Int) + 1) * 64) = ((c : Int) + 1) * 64 := IntWalk.i64_in _ (by omega)
      have w3 : IntKind.i64.wrap ((c : Int) + 1) = (c : Int) + 1 := IntWalk.i64_in _ (by omega)
      have n1 : ((c : Int) * 64).toNat = c * 64 := by omega
      have n2 : (((c : Int) + 1) * 64).toNat = (c + 1) * 64 := by omega
      have hsl : ∀ wx, (Instr.slice 9 (.string y) (some (.int .i64 ((c : Int) * 64))) (some (.int .i64 (((c : Int) + 1) * 64))) none).run Try.prog wx = .ok (.string (y.extract (c * 64) ((c + 1) * 64))) wx := fun wx => by
        have h := run_slice_string (P := Try.prog) wx 9 y .i64 .i64 ((c : Int) * 64) (((c : Int) + 1) * 64) Try.underlying9 r1 r4 r2
        rw [n1, n2] at h
        exact h
      clear hs hbl q2 x0 n1 n2
      go_wp2_with fail
      go_ret
      exact ⟨ret_str F.out, HBX.out.trans (HBL.out.mono HBX.out.size)⟩
    · obtain ⟨i, rfl⟩ : ∃ i, j = i + 1 := ⟨j - 1, by omega⟩
      have ei : ((i + 1 : Nat) : Int) - 1 = (i : Int) := by omega
      rw [ei]
      obtain ⟨g2, o2, rfl, hg2, a0, a1, a2, y1, y2⟩ := (HW.out.below hbl) i (by rw [← HNW.out]; omega)
      obtain ⟨n, hn⟩ : ∃ n, n = (L.getD i default).1 := ⟨_, rfl⟩
      obtain ⟨s, hs1⟩ : ∃ s, s = (L.getD i default).2.1 := ⟨_, rfl⟩
      obtain ⟨d, hd⟩ : ∃ d, d = (L.getD i default).2.2 := ⟨_, rfl⟩
      have hstep : seenF L x c (i + 1) = if s = (c : Int) ∧ n = x then some d else seenF L x c i := by rw [hn, hs1, hd]; rfl
      rw [← hn] at a0 y1; rw [← hs1] at a1; rw [← hd] at a2 y2
      have HB3 := Lib.hid (hbl.alloc hbW (.cells #[.string n, .int .i64 s, .string d] 39))
      have m0 : (0 : Int) ≤ (i : Int) := by omega
      have m1 : (i : Int) < (nW : Int) := by omega
      clear hn hs1 hd hbl
      by_cases c1 : s = (c : Int)
      · have t1 : (s == (c : Int)) = true := by rw [beq_iff_eq]; exact c1
        by_cases c2 : n = x
        · have t2 : (n.toList == x.toList) = true := by rw [c2]; simp
          have F : Hid (d = seenO L x y c nW) := Lib.hid (by rw [hs]; unfold seenO; rw [hstep, if_pos ⟨c1, c2⟩])
          clear c1 c2 hs hstep
          go_wp2_with fail
          go_ret
          exact ⟨ret_str F.out, HBX.out.trans (HB3.out.mono HBX.out.size)⟩
        · have t2 : (n.toList == x.toList) = false := by rw [beq_eq_false_iff_ne]; exact fun e => c2 (toList_inj e)
          have F : Hid (seenO L x y c nW = seenO L x y c i) := Lib.hid (by rw [hs]; unfold seenO; rw [hstep, if_neg (fun h => c2 h.2)])
          clear c1 c2 hs hstep
          go_wp2_with fail
          go_roundw
          case rel => exact ⟨i, by omega, by go_num, F.out, HB3.out⟩
          case measure => simp [intOf]
      · have t1 : (s == (c : Int)) = false := by rw [beq_eq_false_iff_ne]; exact c1
        have F : Hid (seenO L x y c nW = seenO L x y c i) := Lib.hid (by rw [hs]; unfold seenO; rw [hstep, if_neg (fun h => c1 h.1)])
        clear c1 hs hstep
        go_wp2_with fail
        go_roundw
        case rel => exact ⟨i, by omega, by go_num, F.out, HB3.out⟩
        case measure => simp [intOf]
end Go.Proofs.Ytgpheofdeflhdaa.Dk
