/- DiskRoom: the law. -/
import Derived.Test.YtfdpmbjbgigkgaaDkLives
import Derived.Test.YtfdpmbjbgigkgaaDkThyE
import Derived.Test.YtfdpmbjbgigkgaaDkOpen
namespace Go.Proofs.Ytfdpmbjbgigkgaa.Dk
open Go.RowKit Go.Op

set_option maxHeartbeats 16000000 in
set_option maxRecDepth 100000 in
theorem room_law (D : Dsk) (dv : DVal) (nm : ByteArray) (s : Int) (w : World) (hv : VarAt w D dv) (h1 : nm.size ≤ 140737488355328) :
    Calls Try.prog 8 #[dval D dv, .string nm, .int .i64 s] w fun e w' => e = .returned (.bool true) ∧ Below w.heap.size w w' := by
  unfold dval
  obtain ⟨pE, nE, cE, pW, nW, cW⟩ := dv
  simp only
  obtain ⟨u0, hu0⟩ : ∃ u, u = (w.alloc (.cells #[.int .i64 D.size, .slice pE nE cE, .slice pW nW cW, .int .i64 D.fuse, .bool D.down] 25)) := ⟨_, rfl⟩
  have t0 : Below w.heap.size w u0 := by rw [hu0]; exact (Below.refl _ _).alloc (Nat.le_refl _) _
  have X_d : Hid (Boxed u0 w.heap.size [.int .i64 D.size, .slice pE nE cE, .slice pW nW cW, .int .i64 D.fuse, .bool D.down]) := Lib.hid (by rw [hu0]; exact Boxed.new w #[.int .i64 D.size, .slice pE nE cE, .slice pW nW cW, .int .i64 D.fuse, .bool D.down] 25)
  have V_d := Lib.hid (hv.below t0)
  have BB := Lib.hid t0
  have HU0 := Lib.hid hu0
  obtain ⟨rn, hrn⟩ : ∃ x, x = rmA D := ⟨_, rfl⟩
  obtain ⟨re, hre⟩ : ∃ x, x = rdy D := ⟨_, rfl⟩
  have HRN := Lib.hid hrn.symm; have HRE := Lib.hid hre.symm
  by_cases hz : re = 0
  case neg =>
    have t : (re != 0) = true := by rw [bne_iff_ne]; exact hz
    have t2 : (rn == 0) = true := by rw [beq_iff_eq, hrn]; exact rm_zero (by rw [← hre]; exact hz)
    clear hrn hre hu0 t0 hv hz
    go_enter Try.func8, Try.ntmps8
    go_wp2_with fail
    rw [← HU0.out]
    refine (lives_any _).mono ?_
    rintro e w1 ⟨rfl, b1⟩
    have x_d := X_d.out.below b1; have v_d := V_d.out.below b1
    have bb := BB.out.trans (b1.mono BB.out.size)
    have q2 : w1.cell? ⟨w.heap.size, 0, none⟩ = some (.int .i64 D.size) := by exact x_d.cell 0 (by simp)
    have q3 : w1.cell? ⟨w.heap.size, 1, none⟩ = some (.slice pE nE cE) := by exact x_d.cell 1 (by simp)
    have q4 : w1.cell? ⟨w.heap.size, 2, none⟩ = some (.slice pW nW cW) := by exact x_d.cell 2 (by simp)
    have q5 : w1.cell? ⟨w.heap.size, 3, none⟩ = some (.int .i64 D.fuse) := by exact x_d.cell 3 (by simp)
    have q6 : w1.cell? ⟨w.heap.size, 4, none⟩ = some (.bool D.down) := by exact x_d.cell 4 (by simp)
    have X_d := Lib.hid x_d; have V_d := Lib.hid v_d
    have BB := Lib.hid bb
    clear bb x_d v_d
    clear b1
    go_wp2_with fail
    refine (rm_call V_d.out).mono ?_
    rw [HRN.out, HRE.out]
    rintro e w7 ⟨rfl, b7⟩
    have x_d := X_d.out.below b7; have v_d := V_d.out.below b7
    have bb := BB.out.trans (b7.mono BB.out.size)
    have X_d := Lib.hid x_d; have V_d := Lib.hid v_d
    have BB := Lib.hid bb
    clear bb x_d v_d
    clear b7
    go_wp2_with fail
    go_ret
    exact ⟨rfl, BB.out⟩
  case pos =>
  subst hz
  have hsum := sum_le hre.symm
  have hrn2 := rmA_ok hre.symm
  rw [← hrn] at hrn2
  have hEl : nE = D.E.length := hv.hE
  have hE16 : D.E.length ≤ 16384 := by
    have hc := chk_good (ready_good hre.symm).1
    have := exR_length hc.1 hc.2.2.2.1
    omega
  have HSC : Hid (∀ k, k < D.E.length → scE D (D.E.getD k default).1 = 0 ∧ scA D (D.E.getD k default).1 = (many (D.E.getD k default).2 : Nat) ∧ 1 ≤ many (D.E.getD k default).2) := Lib.hid (fun k hk => sc_at hre.symm hk)
  have HTK : Hid (∀ k, k ≤ D.E.length → (sumN (D.E.take k) : Int) ≤ 16384) := Lib.hid (fun k hk => by
    have h := sumN_app (D.E.take k) (D.E.drop k)
    rw [List.take_append_drop] at h
    omega)
  obtain ⟨De, hDe⟩ : ∃ x, x = nwD D nm s := ⟨_, rfl⟩
  obtain ⟨er, her⟩ : ∃ x, x = nwE D nm s := ⟨_, rfl⟩
  have HDE := Lib.hid hDe.symm; have HER := Lib.hid her.symm
  obtain ⟨sz, hsz⟩ : ∃ x : Int, x = (sumN D.E : Nat) := ⟨_, rfl⟩
  rw [← hsz] at hsum hrn2
  have HSZ := Lib.hid hsz
  have tsz : (D.size == D.size) = true := by rw [beq_iff_eq]
  have hadd : IntKind.i64.wrap (sz + rn) = D.size := by rw [hrn2, show sz + (D.size - sz) = D.size by omega]; exact IntWalk.i64_in _ (by omega)
  have hs0 : 0 ≤ sz := by omega
  have hn16 : nE ≤ 16384 := by omega
  have HEL := Lib.hid hEl; have HE16 := Lib.hid hE16
  by_cases hz : er = 0
  case neg =>
    have hDD : De = D := by rw [hDe]; exact nw_bad hre.symm (by rw [← her]; exact hz)
    have HDE2 : Hid (nwD D nm s = D) := Lib.hid (by rw [← hDe]; exact hDD)
    have t : (er != 0) = true := by rw [bne_iff_ne]; exact hz
    clear hrn hre hu0 t0 hv hz hsum hrn2 hEl hE16 hDe her hsz
    go_enter Try.func8, Try.ntmps8
    go_wp2_with fail
    rw [← HU0.out]
    refine (lives_any _).mono ?_
    rintro e w101 ⟨rfl, b101⟩
    have x_d := X_d.out.below b101; have v_d := V_d.out.below b101
    have bb := BB.out.trans (b101.mono BB.out.size)
    have q102 : w101.cell? ⟨w.heap.size, 0, none⟩ = some (.int .i64 D.size) := by exact x_d.cell 0 (by simp)
    have q103 : w101.cell? ⟨w.heap.size, 1, none⟩ = some (.slice pE nE cE) := by exact x_d.cell 1 (by simp)
    have q104 : w101.cell? ⟨w.heap.size, 2, none⟩ = some (.slice pW nW cW) := by exact x_d.cell 2 (by simp)
    have q105 : w101.cell? ⟨w.heap.size, 3, none⟩ = some (.int .i64 D.fuse) := by exact x_d.cell 3 (by simp)
    have q106 : w101.cell? ⟨w.heap.size, 4, none⟩ = some (.bool D.down) := by exact x_d.cell 4 (by simp)
    have X_d := Lib.hid x_d; have V_d := Lib.hid v_d
    have BB := Lib.hid bb
    clear bb x_d v_d
    clear b101
    go_wp2_with fail
    refine (rm_call V_d.out).mono ?_
    rw [HRN.out, HRE.out]
    rintro e w107 ⟨rfl, b107⟩
    have x_d := X_d.out.below b107; have v_d := V_d.out.below b107
    have bb := BB.out.trans (b107.mono BB.out.size)
    have q108 : w107.cell? ⟨w.heap.size, 0, none⟩ = some (.int .i64 D.size) := by exact x_d.cell 0 (by simp)
    have q109 : w107.cell? ⟨w.heap.size, 1, none⟩ = some (.slice pE nE cE) := by exact x_d.cell 1 (by simp)
    have q110 : w107.cell? ⟨w.heap.size, 2, none⟩ = some (.slice pW nW cW) := by exact x_d.cell 2 (by simp)
    have q111 : w107.cell? ⟨w.heap.size, 3, none⟩ = some (.int .i64 D.fuse) := by exact x_d.cell 3 (by simp)
    have q112 : w107.cell? ⟨w.heap.size, 4, none⟩ = some (.bool D.down) := by exact x_d.cell 4 (by simp)
    have X_d := Lib.hid x_d; have V_d := Lib.hid v_d
    have BB := Lib.hid bb
    clear bb x_d v_d
    clear b107
    go_wp2_with fail
    go_loopw [9, 11, 12, 13, 34] (fun sm _ _ _ i wr => ∃ k : Nat, k ≤ nE ∧ i = .int .i64 k ∧ sm = .int .i64 (sumN (D.E.take k) : Nat) ∧ Below w107.heap.size w107 wr) (fun _ _ _ _ i _ => nE - (intOf i).toNat)
    case atStart => exact ⟨0, by omega, rfl, rfl, Below.refl _ _⟩
    case round =>
      obtain ⟨k, hk, rfl, rfl, hb⟩ := hrel
      have x_d := X_d.out.below hb; have v_d := V_d.out.below hb
      have bb := BB.out.trans (hb.mono BB.out.size)
      have hel := HEL.out
      by_cases hlt : k < nE
      · have hkE : k < D.E.length := by omega
        obtain ⟨g, o, e1, hg, d0, d1, z1, z2⟩ := v_d.E k hkE
        simp only at e1
        subst e1
        obtain ⟨sc1, sc2, sc3⟩ := HSC.out k hkE
        obtain ⟨x, hx⟩ : ∃ x, x = (D.E.getD k default).1 := ⟨_, rfl⟩
        obtain ⟨y, hy⟩ : ∃ y, y = (D.E.getD k default).2 := ⟨_, rfl⟩
        rw [← hx] at d0 sc1 sc2
        rw [← hy] at d1 sc2 sc3
        obtain ⟨mm, hmm⟩ : ∃ mm, mm = many y := ⟨_, rfl⟩
        rw [← hmm] at sc2 sc3
        have htk := sumN_take D.E k hkE
        rw [← hy, ← hmm] at htk
        have hb2 := HTK.out (k + 1) (by omega)
        obtain ⟨s0, hs0'⟩ : ∃ s0, s0 = sumN (D.E.take k) := ⟨_, rfl⟩
        rw [← hs0'] at htk ⊢
        have hw1 : IntKind.i64.wrap ((s0 : Int) + (mm : Int)) = ((s0 + mm : Nat) : Int) := by rw [IntWalk.i64_in _ (by omega)]; rfl
        have hm1 : decide ((mm : Int) < 1) = false := decide_eq_false (by omega)
        obtain ⟨W2, hW2⟩ : ∃ W2, W2 = wr.alloc (.cells #[.string x, .string y] 54) := ⟨_, rfl⟩
        have t2 : Below wr.heap.size wr W2 := by rw [hW2]; exact (Below.refl _ _).alloc (Nat.le_refl _) _
        have x2 := x_d.below t2
        have v2 := v_d.below t2
        have r0 : (wr.alloc (.cells #[.string x, .string y] 54)).cell? ⟨w.heap.size, 0, none⟩ = some (.int .i64 D.size) := by rw [← hW2]; exact x2.cell 0 (by simp)
        have r1 : (wr.alloc (.cells #[.string x, .string y] 54)).cell? ⟨w.heap.size, 1, none⟩ = some (.slice (some ⟨g, o, none⟩) nE cE) := by rw [← hW2]; exact x2.cell 1 (by simp)
        have r2 : (wr.alloc (.cells #[.string x, .string y] 54)).cell? ⟨w.heap.size, 2, none⟩ = some (.slice pW nW cW) := by rw [← hW2]; exact x2.cell 2 (by simp)
        have r3 : (wr.alloc (.cells #[.string x, .string y] 54)).cell? ⟨w.heap.size, 3, none⟩ = some (.int .i64 D.fuse) := by rw [← hW2]; exact x2.cell 3 (by simp)
        have r4 : (wr.alloc (.cells #[.string x, .string y] 54)).cell? ⟨w.heap.size, 4, none⟩ = some (.bool D.down) := by rw [← hW2]; exact x2.cell 4 (by simp)
        have HW2 := Lib.hid hW2
        have HC := Lib.hid (sc_call v2 x)
        rw [sc1, sc2] at HC
        have HB3 : Hid (∀ w3, Below W2.heap.size W2 w3 → Below w107.heap.size w107 w3) := Lib.hid (fun w3 h => hb.trans ((t2.trans (h.mono t2.size)).mono hb.size))
        have HTK1 := Lib.hid htk
        have m0 : (0 : Int) ≤ (k : Int) := by omega
        have m1 : (k : Int) < (nE : Int) := by omega
        clear hx hy hmm hs0' sc1 sc2 htk hb2 x_d v_d bb hb x2 v2 t2 hW2 hel
        go_wp2_with fail
        rw [← HW2.out]
        refine HC.out.mono ?_
        rintro e w3 ⟨rfl, b3⟩
        have HB4 := Lib.hid (HB3.out w3 b3)
        clear b3
        go_wp2_with fail
        go_roundw
        case rel => exact ⟨k + 1, by omega, by go_num, by rw [HTK1.out]; simp, HB4.out⟩
        case measure => simp [intOf]; omega
      · obtain rfl : nE = k := by omega
        have hsmz : ((sumN (D.E.take nE) : Nat) : Int) = sz := by rw [hel, List.take_length]; exact HSZ.out.symm
        rw [hsmz]
        have q113 : wr.cell? ⟨w.heap.size, 0, none⟩ = some (.int .i64 D.size) := by exact x_d.cell 0 (by simp)
        have q114 : wr.cell? ⟨w.heap.size, 1, none⟩ = some (.slice pE nE cE) := by exact x_d.cell 1 (by simp)
        have q115 : wr.cell? ⟨w.heap.size, 2, none⟩ = some (.slice pW nW cW) := by exact x_d.cell 2 (by simp)
        have q116 : wr.cell? ⟨w.heap.size, 3, none⟩ = some (.int .i64 D.fuse) := by exact x_d.cell 3 (by simp)
        have q117 : wr.cell? ⟨w.heap.size, 4, none⟩ = some (.bool D.down) := by exact x_d.cell 4 (by simp)
        have X_d := Lib.hid x_d; have V_d := Lib.hid v_d
        have BB := Lib.hid bb
        clear bb x_d v_d
        clear hb hsmz hel hlt
        go_wp2_with fail
        refine (nw_call V_d.out nm s h1).mono ?_
        rw [HDE2.out, HER.out]
        rintro e w118 ⟨dv118, rfl, va118, _, b118⟩
        have x_d := X_d.out.below b118; have v_d := V_d.out.below b118
        have bb := BB.out.trans (b118.mono BB.out.size)
        have G_e := Lib.hid bb.size
        obtain ⟨u118, hu118⟩ : ∃ u, u = (w118.alloc (.cells #[.int .i64 D.size, .slice dv118.pE dv118.nE dv118.cE, .slice dv118.pW dv118.nW dv118.cW, .int .i64 D.fuse, .bool D.down] 25)) := ⟨_, rfl⟩
        have t118 : Below w118.heap.size w118 u118 := by rw [hu118]; exact (Below.refl _ _).alloc (Nat.le_refl _) _
        replace x_d := x_d.below t118; replace v_d := v_d.below t118
        replace bb := bb.trans (t118.mono bb.size)
        have x_e : Boxed u118 w118.heap.size [.int .i64 D.size, .slice dv118.pE dv118.nE dv118.cE, .slice dv118.pW dv118.nW dv118.cW, .int .i64 D.fuse, .bool D.down] := by rw [hu118]; exact Boxed.new w118 #[.int .i64 D.size, .slice dv118.pE dv118.nE dv118.cE, .slice dv118.pW dv118.nW dv118.cW, .int .i64 D.fuse, .bool D.down] 25
        have v_e := va118.below t118
        have q119 : (w118.alloc (.cells #[.int .i64 D.size, .slice dv118.pE dv118.nE dv118.cE, .slice dv118.pW dv118.nW dv118.cW, .int .i64 D.fuse, .bool D.down] 25)).cell? ⟨w.heap.size, 0, none⟩ = some (.int .i64 D.size) := by rw [← hu118]; exact x_d.cell 0 (by simp)
        have q120 : (w118.alloc (.cells #[.int .i64 D.size, .slice dv118.pE dv118.nE dv118.cE, .slice dv118.pW dv118.nW dv118.cW, .int .i64 D.fuse, .bool D.down] 25)).cell? ⟨w.heap.size, 1, none⟩ = some (.slice pE nE cE) := by rw [← hu118]; exact x_d.cell 1 (by simp)
        have q121 : (w118.alloc (.cells #[.int .i64 D.size, .slice dv118.pE dv118.nE dv118.cE, .slice dv118.pW dv118.nW dv118.cW, .int .i64 D.fuse, .bool D.down] 25)).cell? ⟨w.heap.size, 2, none⟩ = some (.slice pW nW cW) := by rw [← hu118]; exact x_d.cell 2 (by simp)
        have q122 : (w118.alloc (.cells #[.int .i64 D.size, .slice dv118.pE dv118.nE dv118.cE, .slice dv118.pW dv118.nW dv118.cW, .int .i64 D.fuse, .bool D.down] 25)).cell? ⟨w.heap.size, 3, none⟩ = some (.int .i64 D.fuse) := by rw [← hu118]; exact x_d.cell 3 (by simp)
        have q123 : (w118.alloc (.cells #[.int .i64 D.size, .slice dv118.pE dv118.nE dv118.cE, .slice dv118.pW dv118.nW dv118.cW, .int .i64 D.fuse, .bool D.down] 25)).cell? ⟨w.heap.size, 4, none⟩ = some (.bool D.down) := by rw [← hu118]; exact x_d.cell 4 (by simp)
        have q124 : (w118.alloc (.cells #[.int .i64 D.size, .slice dv118.pE dv118.nE dv118.cE, .slice dv118.pW dv118.nW dv118.cW, .int .i64 D.fuse, .bool D.down] 25)).cell? ⟨w118.heap.size, 0, none⟩ = some (.int .i64 D.size) := by rw [← hu118]; exact x_e.cell 0 (by simp)
        have q125 : (w118.alloc (.cells #[.int .i64 D.size, .slice dv118.pE dv118.nE dv118.cE, .slice dv118.pW dv118.nW dv118.cW, .int .i64 D.fuse, .bool D.down] 25)).cell? ⟨w118.heap.size, 1, none⟩ = some (.slice dv118.pE dv118.nE dv118.cE) := by rw [← hu118]; exact x_e.cell 1 (by simp)
        have q126 : (w118.alloc (.cells #[.int .i64 D.size, .slice dv118.pE dv118.nE dv118.cE, .slice dv118.pW dv118.nW dv118.cW, .int .i64 D.fuse, .bool D.down] 25)).cell? ⟨w118.heap.size, 2, none⟩ = some (.slice dv118.pW dv118.nW dv118.cW) := by rw [← hu118]; exact x_e.cell 2 (by simp)
        have q127 : (w118.alloc (.cells #[.int .i64 D.size, .slice dv118.pE dv118.nE dv118.cE, .slice dv118.pW dv118.nW dv118.cW, .int .i64 D.fuse, .bool D.down] 25)).cell? ⟨w118.heap.size, 3, none⟩ = some (.int .i64 D.fuse) := by rw [← hu118]; exact x_e.cell 3 (by simp)
        have q128 : (w118.alloc (.cells #[.int .i64 D.size, .slice dv118.pE dv118.nE dv118.cE, .slice dv118.pW dv118.nW dv118.cW, .int .i64 D.fuse, .bool D.down] 25)).cell? ⟨w118.heap.size, 4, none⟩ = some (.bool D.down) := by rw [← hu118]; exact x_e.cell 4 (by simp)
        have HU118 := Lib.hid hu118
        have X_d := Lib.hid x_d; have V_d := Lib.hid v_d
        have X_e := Lib.hid x_e; have V_e := Lib.hid v_e
        have BB := Lib.hid bb
        clear bb x_d v_d x_e v_e
        clear b118 t118 hu118 va118
        go_wp2_with fail
        rw [← HU118.out]
        refine (Same_any D _ _ _ V_d.out V_e.out).mono ?_
        rintro e w129 ⟨rfl, b129⟩
        have x_d := X_d.out.below b129; have v_d := V_d.out.below b129
        have x_e := X_e.out.below b129; have v_e := V_e.out.below b129
        have bb := BB.out.trans (b129.mono BB.out.size)
        have X_d := Lib.hid x_d; have V_d := Lib.hid v_d
        have X_e := Lib.hid x_e; have V_e := Lib.hid v_e
        have BB := Lib.hid bb
        clear bb x_d v_d x_e v_e
        clear b129
        go_wp2_with fail
        go_ret
        exact ⟨rfl, BB.out⟩
  case pos =>
    subst hz
    obtain ⟨_, q1, _, _, q4, q5⟩ := nw_eq her.symm
    obtain ⟨f1, f2⟩ := nw_fr her.symm
    rw [← hDe] at q4 q5 f1 f2
    rw [← hrn] at q5
    have hm16 := sum_le q4
    have hme := rmA_ok q4
    obtain ⟨m, hm⟩ : ∃ x, x = rmA De := ⟨_, rfl⟩
    rw [← hm] at q5 hme
    have hsub : IntKind.i64.wrap (rn - m) = s := by rw [show rn - m = s by omega]; exact IntWalk.i64_in _ (by omega)
    have tss : (s == s) = true := by rw [beq_iff_eq]
    have Q4 := Lib.hid q4; have F1 := Lib.hid f1; have F2 := Lib.hid f2; have HM := Lib.hid hm.symm
    clear hrn hre hu0 t0 hv hsum hrn2 hEl hE16 hDe her hsz q1 q4 q5 f1 f2 hm16 hme hm
    go_enter Try.func8, Try.ntmps8
    go_wp2_with fail
    rw [← HU0.out]
    refine (lives_any _).mono ?_
    rintro e w501 ⟨rfl, b501⟩
    have x_d := X_d.out.below b501; have v_d := V_d.out.below b501
    have bb := BB.out.trans (b501.mono BB.out.size)
    have q502 : w501.cell? ⟨w.heap.size, 0, none⟩ = some (.int .i64 D.size) := by exact x_d.cell 0 (by simp)
    have q503 : w501.cell? ⟨w.heap.size, 1, none⟩ = some (.slice pE nE cE) := by exact x_d.cell 1 (by simp)
    have q504 : w501.cell? ⟨w.heap.size, 2, none⟩ = some (.slice pW nW cW) := by exact x_d.cell 2 (by simp)
    have q505 : w501.cell? ⟨w.heap.size, 3, none⟩ = some (.int .i64 D.fuse) := by exact x_d.cell 3 (by simp)
    have q506 : w501.cell? ⟨w.heap.size, 4, none⟩ = some (.bool D.down) := by exact x_d.cell 4 (by simp)
    have X_d := Lib.hid x_d; have V_d := Lib.hid v_d
    have BB := Lib.hid bb
    clear bb x_d v_d
    clear b501
    go_wp2_with fail
    refine (rm_call V_d.out).mono ?_
    rw [HRN.out, HRE.out]
    rintro e w507 ⟨rfl, b507⟩
    have x_d := X_d.out.below b507; have v_d := V_d.out.below b507
    have bb := BB.out.trans (b507.mono BB.out.size)
    have q508 : w507.cell? ⟨w.heap.size, 0, none⟩ = some (.int .i64 D.size) := by exact x_d.cell 0 (by simp)
    have q509 : w507.cell? ⟨w.heap.size, 1, none⟩ = some (.slice pE nE cE) := by exact x_d.cell 1 (by simp)
    have q510 : w507.cell? ⟨w.heap.size, 2, none⟩ = some (.slice pW nW cW) := by exact x_d.cell 2 (by simp)
    have q511 : w507.cell? ⟨w.heap.size, 3, none⟩ = some (.int .i64 D.fuse) := by exact x_d.cell 3 (by simp)
    have q512 : w507.cell? ⟨w.heap.size, 4, none⟩ = some (.bool D.down) := by exact x_d.cell 4 (by simp)
    have X_d := Lib.hid x_d; have V_d := Lib.hid v_d
    have BB := Lib.hid bb
    clear bb x_d v_d
    clear b507
    go_wp2_with fail
    go_loopw [9, 11, 12, 13, 34] (fun sm _ _ _ i wr => ∃ k : Nat, k ≤ nE ∧ i = .int .i64 k ∧ sm = .int .i64 (sumN (D.E.take k) : Nat) ∧ Below w507.heap.size w507 wr) (fun _ _ _ _ i _ => nE - (intOf i).toNat)
    case atStart => exact ⟨0, by omega, rfl, rfl, Below.refl _ _⟩
    case round =>
      obtain ⟨k, hk, rfl, rfl, hb⟩ := hrel
      have x_d := X_d.out.below hb; have v_d := V_d.out.below hb
      have bb := BB.out.trans (hb.mono BB.out.size)
      have hel := HEL.out
      by_cases hlt : k < nE
      · have hkE : k < D.E.length := by omega
        obtain ⟨g, o, e1, hg, d0, d1, z1, z2⟩ := v_d.E k hkE
        simp only at e1
        subst e1
        obtain ⟨sc1, sc2, sc3⟩ := HSC.out k hkE
        obtain ⟨x, hx⟩ : ∃ x, x = (D.E.getD k default).1 := ⟨_, rfl⟩
        obtain ⟨y, hy⟩ : ∃ y, y = (D.E.getD k default).2 := ⟨_, rfl⟩
        rw [← hx] at d0 sc1 sc2
        rw [← hy] at d1 sc2 sc3
        obtain ⟨mm, hmm⟩ : ∃ mm, mm = many y := ⟨_, rfl⟩
        rw [← hmm] at sc2 sc3
        have htk := sumN_take D.E k hkE
        rw [← hy, ← hmm] at htk
        have hb2 := HTK.out (k + 1) (by omega)
        obtain ⟨s0, hs0'⟩ : ∃ s0, s0 = sumN (D.E.take k) := ⟨_, rfl⟩
        rw [← hs0'] at htk ⊢
        have hw1 : IntKind.i64.wrap ((s0 : Int) + (mm : Int)) = ((s0 + mm : Nat) : Int) := by rw [IntWalk.i64_in _ (by omega)]; rfl
        have hm1 : decide ((mm : Int) < 1) = false := decide_eq_false (by omega)
        obtain ⟨W2, hW2⟩ : ∃ W2, W2 = wr.alloc (.cells #[.string x, .string y] 54) := ⟨_, rfl⟩
        have t2 : Below wr.heap.size wr W2 := by rw [hW2]; exact (Below.refl _ _).alloc (Nat.le_refl _) _
        have x2 := x_d.below t2
        have v2 := v_d.below t2
        have r0 : (wr.alloc (.cells #[.string x, .string y] 54)).cell? ⟨w.heap.size, 0, none⟩ = some (.int .i64 D.size) := by rw [← hW2]; exact x2.cell 0 (by simp)
        have r1 : (wr.alloc (.cells #[.string x, .string y] 54)).cell? ⟨w.heap.size, 1, none⟩ = some (.slice (some ⟨g, o, none⟩) nE cE) := by rw [← hW2]; exact x2.cell 1 (by simp)
        have r2 : (wr.alloc (.cells #[.string x, .string y] 54)).cell? ⟨w.heap.size, 2, none⟩ = some (.slice pW nW cW) := by rw [← hW2]; exact x2.cell 2 (by simp)
        have r3 : (wr.alloc (.cells #[.string x, .string y] 54)).cell? ⟨w.heap.size, 3, none⟩ = some (.int .i64 D.fuse) := by rw [← hW2]; exact x2.cell 3 (by simp)
        have r4 : (wr.alloc (.cells #[.string x, .string y] 54)).cell? ⟨w.heap.size, 4, none⟩ = some (.bool D.down) := by rw [← hW2]; exact x2.cell 4 (by simp)
        have HW2 := Lib.hid hW2
        have HC := Lib.hid (sc_call v2 x)
        rw [sc1, sc2] at HC
        have HB3 : Hid (∀ w3, Below W2.heap.size W2 w3 → Below w507.heap.size w507 w3) := Lib.hid (fun w3 h => hb.trans ((t2.trans (h.mono t2.size)).mono hb.size))
        have HTK1 := Lib.hid htk
        have m0 : (0 : Int) ≤ (k : Int) := by omega
        have m1 : (k : Int) < (nE : Int) := by omega
        clear hx hy hmm hs0' sc1 sc2 htk hb2 x_d v_d bb hb x2 v2 t2 hW2 hel
        go_wp2_with fail
        rw [← HW2.out]
        refine HC.out.mono ?_
        rintro e w3 ⟨rfl, b3⟩
        have HB4 := Lib.hid (HB3.out w3 b3)
        clear b3
        go_wp2_with fail
        go_roundw
        case rel => exact ⟨k + 1, by omega, by go_num, by rw [HTK1.out]; simp, HB4.out⟩
        case measure => simp [intOf]; omega
      · obtain rfl : nE = k := by omega
        have hsmz : ((sumN (D.E.take nE) : Nat) : Int) = sz := by rw [hel, List.take_length]; exact HSZ.out.symm
        rw [hsmz]
        have q513 : wr.cell? ⟨w.heap.size, 0, none⟩ = some (.int .i64 D.size) := by exact x_d.cell 0 (by simp)
        have q514 : wr.cell? ⟨w.heap.size, 1, none⟩ = some (.slice pE nE cE) := by exact x_d.cell 1 (by simp)
        have q515 : wr.cell? ⟨w.heap.size, 2, none⟩ = some (.slice pW nW cW) := by exact x_d.cell 2 (by simp)
        have q516 : wr.cell? ⟨w.heap.size, 3, none⟩ = some (.int .i64 D.fuse) := by exact x_d.cell 3 (by simp)
        have q517 : wr.cell? ⟨w.heap.size, 4, none⟩ = some (.bool D.down) := by exact x_d.cell 4 (by simp)
        have X_d := Lib.hid x_d; have V_d := Lib.hid v_d
        have BB := Lib.hid bb
        clear bb x_d v_d
        clear hb hsmz hel hlt
        go_wp2_with fail
        refine (nw_call V_d.out nm s h1).mono ?_
        rw [HDE.out, HER.out]
        rintro e w518 ⟨dv518, rfl, va518, _, b518⟩
        have x_d := X_d.out.below b518; have v_d := V_d.out.below b518
        have bb := BB.out.trans (b518.mono BB.out.size)
        have G_e := Lib.hid bb.size
        obtain ⟨u518, hu518⟩ : ∃ u, u = (w518.alloc (.cells #[.int .i64 De.size, .slice dv518.pE dv518.nE dv518.cE, .slice dv518.pW dv518.nW dv518.cW, .int .i64 De.fuse, .bool De.down] 25)) := ⟨_, rfl⟩
        have t518 : Below w518.heap.size w518 u518 := by rw [hu518]; exact (Below.refl _ _).alloc (Nat.le_refl _) _
        replace x_d := x_d.below t518; replace v_d := v_d.below t518
        replace bb := bb.trans (t518.mono bb.size)
        have x_e : Boxed u518 w518.heap.size [.int .i64 De.size, .slice dv518.pE dv518.nE dv518.cE, .slice dv518.pW dv518.nW dv518.cW, .int .i64 De.fuse, .bool De.down] := by rw [hu518]; exact Boxed.new w518 #[.int .i64 De.size, .slice dv518.pE dv518.nE dv518.cE, .slice dv518.pW dv518.nW dv518.cW, .int .i64 De.fuse, .bool De.down] 25
        have v_e := va518.below t518
        have q519 : (w518.alloc (.cells #[.int .i64 De.size, .slice dv518.pE dv518.nE dv518.cE, .slice dv518.pW dv518.nW dv518.cW, .int .i64 De.fuse, .bool De.down] 25)).cell? ⟨w518.heap.size, 0, none⟩ = some (.int .i64 De.size) := by rw [← hu518]; exact x_e.cell 0 (by simp)
        have q520 : (w518.alloc (.cells #[.int .i64 De.size, .slice dv518.pE dv518.nE dv518.cE, .slice dv518.pW dv518.nW dv518.cW, .int .i64 De.fuse, .bool De.down] 25)).cell? ⟨w518.heap.size, 1, none⟩ = some (.slice dv518.pE dv518.nE dv518.cE) := by rw [← hu518]; exact x_e.cell 1 (by simp)
        have q521 : (w518.alloc (.cells #[.int .i64 De.size, .slice dv518.pE dv518.nE dv518.cE, .slice dv518.pW dv518.nW dv518.cW, .int .i64 De.fuse, .bool De.down] 25)).cell? ⟨w518.heap.size, 2, none⟩ = some (.slice dv518.pW dv518.nW dv518.cW) := by rw [← hu518]; exact x_e.cell 2 (by simp)
        have q522 : (w518.alloc (.cells #[.int .i64 De.size, .slice dv518.pE dv518.nE dv518.cE, .slice dv518.pW dv518.nW dv518.cW, .int .i64 De.fuse, .bool De.down] 25)).cell? ⟨w518.heap.size, 3, none⟩ = some (.int .i64 De.fuse) := by rw [← hu518]; exact x_e.cell 3 (by simp)
        have q523 : (w518.alloc (.cells #[.int .i64 De.size, .slice dv518.pE dv518.nE dv518.cE, .slice dv518.pW dv518.nW dv518.cW, .int .i64 De.fuse, .bool De.down] 25)).cell? ⟨w518.heap.size, 4, none⟩ = some (.bool De.down) := by rw [← hu518]; exact x_e.cell 4 (by simp)
        have HU518 := Lib.hid hu518
        have X_d := Lib.hid x_d; have V_d := Lib.hid v_d
        have X_e := Lib.hid x_e; have V_e := Lib.hid v_e
        have BB := Lib.hid bb
        clear bb x_d v_d x_e v_e
        clear b518 t518 hu518 va518
        go_wp2_with fail
        rw [← HU518.out]
        refine (rm_call V_e.out).mono ?_
        rw [HM.out, Q4.out]
        rintro e w524 ⟨rfl, b524⟩
        have x_d := X_d.out.below b524; have v_d := V_d.out.below b524
        have x_e := X_e.out.below b524; have v_e := V_e.out.below b524
        have bb := BB.out.trans (b524.mono BB.out.size)
        have q525 : w524.cell? ⟨w518.heap.size, 0, none⟩ = some (.int .i64 De.size) := by exact x_e.cell 0 (by simp)
        have q526 : w524.cell? ⟨w518.heap.size, 1, none⟩ = some (.slice dv518.pE dv518.nE dv518.cE) := by exact x_e.cell 1 (by simp)
        have q527 : w524.cell? ⟨w518.heap.size, 2, none⟩ = some (.slice dv518.pW dv518.nW dv518.cW) := by exact x_e.cell 2 (by simp)
        have q528 : w524.cell? ⟨w518.heap.size, 3, none⟩ = some (.int .i64 De.fuse) := by exact x_e.cell 3 (by simp)
        have q529 : w524.cell? ⟨w518.heap.size, 4, none⟩ = some (.bool De.down) := by exact x_e.cell 4 (by simp)
        have X_d := Lib.hid x_d; have V_d := Lib.hid v_d
        have X_e := Lib.hid x_e; have V_e := Lib.hid v_e
        have BB := Lib.hid bb
        clear bb x_d v_d x_e v_e
        clear b524
        go_wp2_with fail
        obtain ⟨u530, hu530⟩ : ∃ u, u = (w524.alloc (.cells #[.string nm] 9)) := ⟨_, rfl⟩
        have t530 : Below w524.heap.size w524 u530 := by rw [hu530]; exact (Below.refl _ _).alloc (Nat.le_refl _) _
        have x_d := X_d.out.below t530; have v_d := V_d.out.below t530
        have x_e := X_e.out.below t530; have v_e := V_e.out.below t530
        have bb := BB.out.trans (t530.mono BB.out.size)
        have x_names : Boxed u530 w524.heap.size [.string nm] := by rw [hu530]; exact Boxed.new w524 #[.string nm] 9
        have HU530 := Lib.hid hu530
        have X_d := Lib.hid x_d; have V_d := Lib.hid v_d
        have X_e := Lib.hid x_e; have V_e := Lib.hid v_e
        have X_names := Lib.hid x_names
        have BB := Lib.hid bb
        clear bb x_d v_d x_e v_e x_names
        clear t530 hu530
        rw [← HU530.out]
        refine (fr_call V_e.out [nm] _ 1 1 rfl (rd_boxed X_names.out) (fun i hi => by simp at hi; subst hi; exact h1) (by omega)).mono ?_
        rw [F2.out, F1.out]
        rintro e w531 ⟨dv531, rfl, va531, _, b531⟩
        have x_d := X_d.out.below b531; have v_d := V_d.out.below b531
        have x_e := X_e.out.below b531; have v_e := V_e.out.below b531
        have x_names := X_names.out.below b531
        have bb := BB.out.trans (b531.mono BB.out.size)
        have G_f := Lib.hid bb.size
        obtain ⟨u531, hu531⟩ : ∃ u, u = (w531.alloc (.cells #[.int .i64 D.size, .slice dv531.pE dv531.nE dv531.cE, .slice dv531.pW dv531.nW dv531.cW, .int .i64 D.fuse, .bool D.down] 25)) := ⟨_, rfl⟩
        have t531 : Below w531.heap.size w531 u531 := by rw [hu531]; exact (Below.refl _ _).alloc (Nat.le_refl _) _
        replace x_d := x_d.below t531; replace v_d := v_d.below t531
        replace x_e := x_e.below t531; replace v_e := v_e.below t531
        replace x_names := x_names.below t531
        replace bb := bb.trans (t531.mono bb.size)
        have x_f : Boxed u531 w531.heap.size [.int .i64 D.size, .slice dv531.pE dv531.nE dv531.cE, .slice dv531.pW dv531.nW dv531.cW, .int .i64 D.fuse, .bool D.down] := by rw [hu531]; exact Boxed.new w531 #[.int .i64 D.size, .slice dv531.pE dv531.nE dv531.cE, .slice dv531.pW dv531.nW dv531.cW, .int .i64 D.fuse, .bool D.down] 25
        have v_f := va531.below t531
        have q532 : (w531.alloc (.cells #[.int .i64 D.size, .slice dv531.pE dv531.nE dv531.cE, .slice dv531.pW dv531.nW dv531.cW, .int .i64 D.fuse, .bool D.down] 25)).cell? ⟨w.heap.size, 0, none⟩ = some (.int .i64 D.size) := by rw [← hu531]; exact x_d.cell 0 (by simp)
        have q533 : (w531.alloc (.cells #[.int .i64 D.size, .slice dv531.pE dv531.nE dv531.cE, .slice dv531.pW dv531.nW dv531.cW, .int .i64 D.fuse, .bool D.down] 25)).cell? ⟨w.heap.size, 1, none⟩ = some (.slice pE nE cE) := by rw [← hu531]; exact x_d.cell 1 (by simp)
        have q534 : (w531.alloc (.cells #[.int .i64 D.size, .slice dv531.pE dv531.nE dv531.cE, .slice dv531.pW dv531.nW dv531.cW, .int .i64 D.fuse, .bool D.down] 25)).cell? ⟨w.heap.size, 2, none⟩ = some (.slice pW nW cW) := by rw [← hu531]; exact x_d.cell 2 (by simp)
        have q535 : (w531.alloc (.cells #[.int .i64 D.size, .slice dv531.pE dv531.nE dv531.cE, .slice dv531.pW dv531.nW dv531.cW, .int .i64 D.fuse, .bool D.down] 25)).cell? ⟨w.heap.size, 3, none⟩ = some (.int .i64 D.fuse) := by rw [← hu531]; exact x_d.cell 3 (by simp)
        have q536 : (w531.alloc (.cells #[.int .i64 D.size, .slice dv531.pE dv531.nE dv531.cE, .slice dv531.pW dv531.nW dv531.cW, .int .i64 D.fuse, .bool D.down] 25)).cell? ⟨w.heap.size, 4, none⟩ = some (.bool D.down) := by rw [← hu531]; exact x_d.cell 4 (by simp)
        have q537 : (w531.alloc (.cells #[.int .i64 D.size, .slice dv531.pE dv531.nE dv531.cE, .slice dv531.pW dv531.nW dv531.cW, .int .i64 D.fuse, .bool D.down] 25)).cell? ⟨w531.heap.size, 0, none⟩ = some (.int .i64 D.size) := by rw [← hu531]; exact x_f.cell 0 (by simp)
        have q538 : (w531.alloc (.cells #[.int .i64 D.size, .slice dv531.pE dv531.nE dv531.cE, .slice dv531.pW dv531.nW dv531.cW, .int .i64 D.fuse, .bool D.down] 25)).cell? ⟨w531.heap.size, 1, none⟩ = some (.slice dv531.pE dv531.nE dv531.cE) := by rw [← hu531]; exact x_f.cell 1 (by simp)
        have q539 : (w531.alloc (.cells #[.int .i64 D.size, .slice dv531.pE dv531.nE dv531.cE, .slice dv531.pW dv531.nW dv531.cW, .int .i64 D.fuse, .bool D.down] 25)).cell? ⟨w531.heap.size, 2, none⟩ = some (.slice dv531.pW dv531.nW dv531.cW) := by rw [← hu531]; exact x_f.cell 2 (by simp)
        have q540 : (w531.alloc (.cells #[.int .i64 D.size, .slice dv531.pE dv531.nE dv531.cE, .slice dv531.pW dv531.nW dv531.cW, .int .i64 D.fuse, .bool D.down] 25)).cell? ⟨w531.heap.size, 3, none⟩ = some (.int .i64 D.fuse) := by rw [← hu531]; exact x_f.cell 3 (by simp)
        have q541 : (w531.alloc (.cells #[.int .i64 D.size, .slice dv531.pE dv531.nE dv531.cE, .slice dv531.pW dv531.nW dv531.cW, .int .i64 D.fuse, .bool D.down] 25)).cell? ⟨w531.heap.size, 4, none⟩ = some (.bool D.down) := by rw [← hu531]; exact x_f.cell 4 (by simp)
        have HU531 := Lib.hid hu531
        have X_d := Lib.hid x_d; have V_d := Lib.hid v_d
        have X_e := Lib.hid x_e; have V_e := Lib.hid v_e
        have X_f := Lib.hid x_f; have V_f := Lib.hid v_f
        have X_names := Lib.hid x_names
        have BB := Lib.hid bb
        clear bb x_d v_d x_e v_e x_f v_f x_names
        clear b531 t531 hu531 va531
        go_wp2_with fail
        rw [← HU531.out]
        refine (Same_any D _ _ _ V_d.out V_f.out).mono ?_
        rintro e w542 ⟨rfl, b542⟩
        have x_d := X_d.out.below b542; have v_d := V_d.out.below b542
        have x_e := X_e.out.below b542; have v_e := V_e.out.below b542
        have x_f := X_f.out.below b542; have v_f := V_f.out.below b542
        have x_names := X_names.out.below b542
        have bb := BB.out.trans (b542.mono BB.out.size)
        have X_d := Lib.hid x_d; have V_d := Lib.hid v_d
        have X_e := Lib.hid x_e; have V_e := Lib.hid v_e
        have X_f := Lib.hid x_f; have V_f := Lib.hid v_f
        have X_names := Lib.hid x_names
        have BB := Lib.hid bb
        clear bb x_d v_d x_e v_e x_f v_f x_names
        clear b542
        go_wp2_with fail
        go_ret
        exact ⟨rfl, BB.out⟩
end Go.Proofs.Ytfdpmbjbgigkgaa.Dk
