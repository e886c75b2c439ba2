/- The document's power, as, place. The document's Read. -/
import Derived.Test.YtejmbbhbimgheaaDkRefC
import Derived.Test.YtejmbbhbimgheaaDkRefD
import Derived.Test.YtejmbbhbimgheaaDkThyB
namespace Go.Proofs.Ytejmbbhbimgheaa.Dk
open Go.RowKit Go.Op Rw

theorem Boxed.five {w : World} {g : Nat} {a b c d e : Value} (h : Boxed w g [a, b, c, d, e]) : w.cell? ⟨g, 0, none⟩ = some a ∧ w.cell? ⟨g, 1, none⟩ = some b ∧ w.cell? ⟨g, 2, none⟩ = some c ∧ w.cell? ⟨g, 3, none⟩ = some d ∧ w.cell? ⟨g, 4, none⟩ = some e :=
  ⟨h.cell 0 (by simp), h.cell 1 (by simp), h.cell 2 (by simp), h.cell 3 (by simp), h.cell 4 (by simp)⟩
theorem Boxed.fiveF {w : World} {g : Nat} {a b c d e : Value} (h : Boxed w g [a, b, c, d, e]) : w.frozen? ⟨g, 0, none⟩ = false ∧ w.frozen? ⟨g, 1, none⟩ = false ∧ w.frozen? ⟨g, 2, none⟩ = false ∧ w.frozen? ⟨g, 3, none⟩ = false ∧ w.frozen? ⟨g, 4, none⟩ = false :=
  ⟨h.free 0 (by simp), h.free 1 (by simp), h.free 2 (by simp), h.free 3 (by simp), h.free 4 (by simp)⟩
theorem ckE_cases (D : Dsk) : ckE D = 0 ∨ ckE D = 2 := by
  show chkE D.size D.E D.W D.fuse = 0 ∨ chkE D.size D.E D.W D.fuse = 2
  unfold chkE; split
  · exact .inl rfl
  · exact .inr rfl
theorem rdy_ck (D : Dsk) : rdy D = if ckE D = 0 then (if D.down = true then 10 else 0) else 2 := by
  show readyE D.size D.E D.W D.fuse D.down = if chkE D.size D.E D.W D.fuse = 0 then _ else _
  unfold readyE chkE
  cases chkB D.size D.E D.W D.fuse <;> rfl
set_option maxHeartbeats 4000000 in
set_option maxRecDepth 100000 in
theorem rpower_any (D : Dsk) (v : DVal) (w : World) (h : VarAt w D v) (hc : v.nE ≤ v.cE) :
    Calls Try.prog 31 #[.agg #[.int .i64 D.size, .slice v.pE v.nE v.cE, .slice v.pW v.nW v.cW, .int .i64 D.fuse, .bool D.down]] w fun e w' => e = .returned (.int .i64 (rdy D)) ∧ Below w.heap.size w w' := by
  have hb : Below w.heap.size w (w.alloc (.cells #[.int .i64 D.size, .slice v.pE v.nE v.cE, .slice v.pW v.nW v.cW, .int .i64 D.fuse, .bool D.down] 25)) := (Below.refl _ _).alloc (Nat.le_refl _) _
  have XB := Lib.hid (Boxed.new w #[.int .i64 D.size, .slice v.pE v.nE v.cE, .slice v.pW v.nW v.cW, .int .i64 D.fuse, .bool D.down] 25)
  have HV := Lib.hid (h.below hb); have HB := Lib.hid hb
  have hr := rdy_ck D
  have HC : Hid (Calls Try.prog 19 #[.agg #[.int .i64 D.size, .slice v.pE v.nE v.cE, .slice v.pW v.nW v.cW, .int .i64 D.fuse, .bool D.down]] (w.alloc (.cells #[.int .i64 D.size, .slice v.pE v.nE v.cE, .slice v.pW v.nW v.cW, .int .i64 D.fuse, .bool D.down] 25)) fun e w' => e = .returned (.int .i64 (ckE D)) ∧ Below (w.alloc (.cells #[.int .i64 D.size, .slice v.pE v.nE v.cE, .slice v.pW v.nW v.cW, .int .i64 D.fuse, .bool D.down] 25)).heap.size (w.alloc (.cells #[.int .i64 D.size, .slice v.pE v.nE v.cE, .slice v.pW v.nW v.cW, .int .i64 D.fuse, .bool D.down] 25)) w') := Lib.hid (rCheck_any D v _ HV.out hc)
  clear h hb
  rcases ckE_cases D with hk | hk
  · rw [hk] at HC hr
    rw [if_pos rfl] at hr
    have HR := Lib.hid hr
    clear hr hk
    go_enter Try.func31, Try.ntmps31
    go_wp2_with fail
    refine HC.out.mono ?_
    rintro e w1 ⟨rfl, b1⟩
    have B := Lib.hid (HB.out.trans (b1.mono HB.out.size))
    have q4 := (XB.out.below b1).five.2.2.2.2
    clear b1
    cases hd : D.down with
    | true =>
      have F : Hid ((10 : Int) = rdy D) := Lib.hid (by rw [HR.out, hd]; rfl)
      rw [hd] at q4
      clear hd
      go_wp2_with fail
      go_ret
      exact ⟨ret_int F.out, B.out⟩
    | false =>
      have F : Hid ((0 : Int) = rdy D) := Lib.hid (by rw [HR.out, hd]; rfl)
      rw [hd] at q4
      clear hd
      go_wp2_with fail
      go_ret
      exact ⟨ret_int F.out, B.out⟩
  · rw [hk] at HC hr
    rw [if_neg (by decide)] at hr
    have F : Hid ((2 : Int) = rdy D) := Lib.hid hr.symm
    clear hr hk
    go_enter Try.func31, Try.ntmps31
    go_wp2_with fail
    refine HC.out.mono ?_
    rintro e w1 ⟨rfl, b1⟩
    have B := Lib.hid (HB.out.trans (b1.mono HB.out.size))
    clear b1
    go_wp2_with fail
    go_ret
    exact ⟨ret_int F.out, B.out⟩

/-- answers whose rows are the call's own -/
theorem ans_own {w wX W : World} {C : Nat} {D : Dsk} {v : DVal} {er er' : Int} (h : OwnD wX C D v) (hC : w.heap.size + 2 ≤ C) (hb : Bar wX W (fun k => k = w.heap.size ∨ k = w.heap.size + 1)) (hw : Below w.heap.size w wX) (he : er = er') :
    AnsP w D er' (.returned (.tuple #[.agg #[.int .i64 D.size, .slice v.pE v.nE v.cE, .slice v.pW v.nW v.cW, .int .i64 D.fuse, .bool D.down], .int .i64 er])) W := by
  have ha := h.above
  have hX := h.bar hb (fun a e hk => by
    rcases e with e | e
    · have := ha.1 a e; omega
    · have := ha.2 a e; omega)
  refine ⟨v, by rw [he], hX.at, ⟨fun a e => ?_, fun a e => ?_⟩, hw.trans (hb.below (B := w.heap.size) (fun k _ hk => by omega) hw.size)⟩
  · have := ha.1 a e; omega
  · have := ha.2 a e; omega
theorem ans_var {w wX W : World} {C : Nat} {D : Dsk} {v : DVal} {er er' : Int} (h : VarAt wX D v) (ha : v.above C) (hC : w.heap.size + 2 ≤ C) (hb : Bar wX W (fun k => k = w.heap.size ∨ k = w.heap.size + 1)) (hw : Below w.heap.size w wX) (he : er = er') :
    AnsP w D er' (.returned (.tuple #[.agg #[.int .i64 D.size, .slice v.pE v.nE v.cE, .slice v.pW v.nW v.cW, .int .i64 D.fuse, .bool D.down], .int .i64 er])) W := by
  refine ⟨v, by rw [he], h.bar ha hb (fun k hk => by omega), ⟨fun a e => ?_, fun a e => ?_⟩, hw.trans (hb.below (B := w.heap.size) (fun k _ hk => by omega) hw.size)⟩
  · have := ha.1 a e; omega
  · have := ha.2 a e; omega
theorem ans_zero {w wX W : World} {er er' : Int} (hb : Bar wX W (fun k => k = w.heap.size ∨ k = w.heap.size + 1)) (hw : Below w.heap.size w wX) (he : er = er') :
    AnsP w Dsk0 er' (.returned (.tuple #[.agg #[.int .i64 0, .slice none 0 0, .slice none 0 0, .int .i64 0, .bool false], .int .i64 er])) W :=
  ⟨⟨none, 0, 0, none, 0, 0⟩, by rw [he]; rfl, ⟨rfl, extAt_nil _ _, rfl, wrsAt_nil _ _, lim0⟩, ⟨fun _ h => (by cases h), fun _ h => (by cases h)⟩, hw.trans (hb.below (B := w.heap.size) (fun k _ hk => by omega) hw.size)⟩
/-- a disk as it was, beside an error -/
def asD (D : Dsk) (why : Int) : Dsk := if why = 2 ∧ ckE D = 2 then Dsk0 else D
/-- a variable with a disk, and one for what is answered, ahead of all else -/
structure Two (w W : World) (D : Dsk) (v : DVal) : Prop where
  d : Boxed W w.heap.size [.int .i64 D.size, .slice v.pE v.nE v.cE, .slice v.pW v.nW v.cW, .int .i64 D.fuse, .bool D.down]
  r : Boxed W (w.heap.size + 1) [.int .i64 0, .slice none 0 0, .slice none 0 0, .int .i64 0, .bool false]
  b : Below w.heap.size w W
theorem Two.below {w W W' : World} {D : Dsk} {v : DVal} (h : Two w W D v) (hb : Below W.heap.size W W') : Two w W' D v := ⟨h.d.below hb, h.r.below hb, h.b.trans (hb.mono h.b.size)⟩
theorem Two.new (w : World) (D : Dsk) (v : DVal) : Two w ((w.alloc (.cells #[.int .i64 D.size, .slice v.pE v.nE v.cE, .slice v.pW v.nW v.cW, .int .i64 D.fuse, .bool D.down] 25)).alloc (.cells #[.int .i64 0, .slice none 0 0, .slice none 0 0, .int .i64 0, .bool false] 25)) D v := by
  have h1 := Boxed.new w #[.int .i64 D.size, .slice v.pE v.nE v.cE, .slice v.pW v.nW v.cW, .int .i64 D.fuse, .bool D.down] 25
  have h2 := Boxed.new (w.alloc (.cells #[.int .i64 D.size, .slice v.pE v.nE v.cE, .slice v.pW v.nW v.cW, .int .i64 D.fuse, .bool D.down] 25)) #[.int .i64 0, .slice none 0 0, .slice none 0 0, .int .i64 0, .bool false] 25
  have e : (w.alloc (.cells #[.int .i64 D.size, .slice v.pE v.nE v.cE, .slice v.pW v.nW v.cW, .int .i64 D.fuse, .bool D.down] 25)).heap.size = w.heap.size + 1 := by simp
  rw [e] at h2
  exact ⟨h1.below ((Below.refl _ _).alloc (Nat.le_refl _) _), h2, ((Below.refl _ _).alloc (Nat.le_refl _) _).alloc (by simp) _⟩
theorem Two.lt {w W : World} {D : Dsk} {v : DVal} (h : Two w W D v) : w.heap.size + 2 ≤ W.heap.size := h.r.lt
set_option maxHeartbeats 8000000 in
set_option maxRecDepth 100000 in
theorem ras_any (D : Dsk) (v : DVal) (why : Int) (w : World) (h : VarAt w D v) (hc : v.nE ≤ v.cE) (hf : Few D) :
    Calls Try.prog 32 #[.agg #[.int .i64 D.size, .slice v.pE v.nE v.cE, .slice v.pW v.nW v.cW, .int .i64 D.fuse, .bool D.down], .int .i64 why] w (AnsP w (asD D why) why) := by
  obtain ⟨W2, hW2⟩ : ∃ W2, W2 = ((w.alloc (.cells #[.int .i64 D.size, .slice v.pE v.nE v.cE, .slice v.pW v.nW v.cW, .int .i64 D.fuse, .bool D.down] 25)).alloc (.cells #[.int .i64 0, .slice none 0 0, .slice none 0 0, .int .i64 0, .bool false] 25)) := ⟨_, rfl⟩
  have tw := Two.new w D v
  rw [← hW2] at tw
  have hv := h.below tw.b
  have HW2 := Lib.hid hW2
  have HCk : Hid (∀ W, Below W2.heap.size W2 W → Calls Try.prog 19 #[.agg #[.int .i64 D.size, .slice v.pE v.nE v.cE, .slice v.pW v.nW v.cW, .int .i64 D.fuse, .bool D.down]] W fun e w' => e = .returned (.int .i64 (ckE D)) ∧ Below W.heap.size W w') := Lib.hid (fun W hb => rCheck_any D v W (hv.below hb) hc)
  have HCp : Hid (∀ W, Below W2.heap.size W2 W → Calls Try.prog 5 #[.agg #[.int .i64 D.size, .slice v.pE v.nE v.cE, .slice v.pW v.nW v.cW, .int .i64 D.fuse, .bool D.down]] W (CpP W D)) := Lib.hid (fun W hb => rCopy_any D v W (hv.below hb) hf)
  have TW := Lib.hid tw
  obtain ⟨q0, q1, q2, q3, q4⟩ := tw.d.five
  clear h hc hf tw hv hW2
  by_cases h2 : why = 2
  case pos =>
    rcases ckE_cases D with hk | hk
    · have F : Hid (asD D 2 = D) := Lib.hid (by unfold asD; rw [if_neg]; rw [hk]; omega)
      rw [hk] at HCk
      subst h2
      clear hk
      go_enter Try.func32, Try.ntmps32
      go_wp2_with fail
      rw [← HW2.out]
      refine (HCk.out _ (Below.refl _ _)).mono ?_
      rintro e w1 ⟨rfl, b1⟩
      have TW1 := Lib.hid (TW.out.below b1)
      obtain ⟨q0, q1, q2, q3, q4⟩ := TW1.out.d.five
      have HBC := Lib.hid b1
      clear b1
      go_wp2_with fail
      refine (HCp.out _ HBC.out).mono ?_
      rintro e w3 ⟨v', rfl, hown, b3⟩
      have tw3 := TW1.out.below b3
      have hlt := TW1.out.lt
      have HFin : Hid (∀ W, Bar w3 W (fun k => k = w.heap.size ∨ k = w.heap.size + 1) → AnsP w (asD D 2) 2 (.returned (.tuple #[.agg #[.int .i64 D.size, .slice v'.pE v'.nE v'.cE, .slice v'.pW v'.nW v'.cW, .int .i64 D.fuse, .bool D.down], .int .i64 2])) W) := Lib.hid (fun W hb => by rw [F.out]; exact ans_own hown hlt hb (TW1.out.b.trans (b3.mono TW1.out.b.size)) rfl)
      obtain ⟨p0, p1, p2, p3, p4⟩ := tw3.r.five
      obtain ⟨f0, f1, f2, f3, f4⟩ := tw3.r.fiveF
      clear hown b3 tw3 hlt
      go_wp2_with fail
      (try simp only [Exit.inBlock, Exit.then])
      refine bodyPost_ret (v := .tuple #[.agg #[.int .i64 D.size, .slice v'.pE v'.nE v'.cE, .slice v'.pW v'.nW v'.cW, .int .i64 D.fuse, .bool D.down], .int .i64 2]) ?_ rfl ?_
      · rw [results_cell_tmp rfl]
        go_simp
      · refine HFin.out _ ?_
        repeat (first | exact Bar.refl _ _ | refine Bar.setCell ?_ (by first | exact Or.inl rfl | exact Or.inr rfl) _)
    · have F : Hid (asD D 2 = Dsk0) := Lib.hid (by unfold asD; rw [if_pos ⟨rfl, hk⟩])
      rw [hk] at HCk
      subst h2
      clear hk
      go_enter Try.func32, Try.ntmps32
      go_wp2_with fail
      rw [← HW2.out]
      refine (HCk.out _ (Below.refl _ _)).mono ?_
      rintro e w1 ⟨rfl, b1⟩
      have TW1 := Lib.hid (TW.out.below b1)
      obtain ⟨p0, p1, p2, p3, p4⟩ := TW1.out.r.five
      obtain ⟨f0, f1, f2, f3, f4⟩ := TW1.out.r.fiveF
      have HFin : Hid (∀ W, Bar w1 W (fun k => k = w.heap.size ∨ k = w.heap.size + 1) → AnsP w (asD D 2) 2 (.returned (.tuple #[.agg #[.int .i64 0, .slice none 0 0, .slice none 0 0, .int .i64 0, .bool false], .int .i64 2])) W) := Lib.hid (fun W hb => by rw [F.out]; exact ans_zero hb TW1.out.b rfl)
      clear b1
      go_wp2_with fail
      (try simp only [Exit.inBlock, Exit.then])
      refine bodyPost_ret (v := .tuple #[.agg #[.int .i64 0, .slice none 0 0, .slice none 0 0, .int .i64 0, .bool false], .int .i64 2]) ?_ rfl ?_
      · rw [results_cell_tmp rfl]
        go_simp
      · refine HFin.out _ ?_
        repeat (first | exact Bar.refl _ _ | refine Bar.setCell ?_ (by first | exact Or.inl rfl | exact Or.inr rfl) _)
  case neg =>
    have e2 : (why == 2) = false := by rw [beq_eq_false_iff_ne]; exact h2
    have F : Hid (asD D why = D) := Lib.hid (by unfold asD; rw [if_neg (fun hh => h2 hh.1)])
    have HBC : Hid (Below W2.heap.size W2 W2) := Lib.hid (Below.refl _ _)
    clear h2
    go_enter Try.func32, Try.ntmps32
    go_wp2_with fail
    rw [← HW2.out]
    refine (HCp.out _ HBC.out).mono ?_
    rintro e w3 ⟨v', rfl, hown, b3⟩
    have tw3 := TW.out.below b3
    have hlt := TW.out.lt
    have HFin : Hid (∀ W, Bar w3 W (fun k => k = w.heap.size ∨ k = w.heap.size + 1) → AnsP w (asD D why) why (.returned (.tuple #[.agg #[.int .i64 D.size, .slice v'.pE v'.nE v'.cE, .slice v'.pW v'.nW v'.cW, .int .i64 D.fuse, .bool D.down], .int .i64 why])) W) := Lib.hid (fun W hb => by rw [F.out]; exact ans_own hown hlt hb (TW.out.b.trans (b3.mono TW.out.b.size)) rfl)
    obtain ⟨p0, p1, p2, p3, p4⟩ := tw3.r.five
    obtain ⟨f0, f1, f2, f3, f4⟩ := tw3.r.fiveF
    clear hown b3 tw3 hlt
    go_wp2_with fail
    (try simp only [Exit.inBlock, Exit.then])
    refine bodyPost_ret (v := .tuple #[.agg #[.int .i64 D.size, .slice v'.pE v'.nE v'.cE, .slice v'.pW v'.nW v'.cW, .int .i64 D.fuse, .bool D.down], .int .i64 why]) ?_ rfl ?_
    · rw [results_cell_tmp rfl]
      go_simp
    · refine HFin.out _ ?_
      repeat (first | exact Bar.refl _ _ | refine Bar.setCell ?_ (by first | exact Or.inl rfl | exact Or.inr rfl) _)

theorem place_eq (D : Dsk) (hr : rdy D = 0) (nm : ByteArray) (c : Int) : rdE D nm c = findE D.E nm c := rdE_ok hr nm c
set_option maxHeartbeats 8000000 in
set_option maxRecDepth 100000 in
theorem rplace_any (D : Dsk) (v : DVal) (nm : ByteArray) (c : Int) (w : World) (h : VarAt w D v) (hc : v.nE ≤ v.cE) :
    Calls Try.prog 53 #[.agg #[.int .i64 D.size, .slice v.pE v.nE v.cE, .slice v.pW v.nW v.cW, .int .i64 D.fuse, .bool D.down], .string nm, .int .i64 c] w fun e w' => e = .returned (.int .i64 (rdE D nm c)) ∧ Below w.heap.size w w' := by
  obtain ⟨W2, hW2⟩ : ∃ W2, W2 = (w.alloc (.cells #[.int .i64 D.size, .slice v.pE v.nE v.cE, .slice v.pW v.nW v.cW, .int .i64 D.fuse, .bool D.down] 25)) := ⟨_, rfl⟩
  have hb : Below w.heap.size w W2 := by rw [hW2]; exact (Below.refl _ _).alloc (Nat.le_refl _) _
  have xb : Boxed W2 w.heap.size [.int .i64 D.size, .slice v.pE v.nE v.cE, .slice v.pW v.nW v.cW, .int .i64 D.fuse, .bool D.down] := by rw [hW2]; exact Boxed.new w #[.int .i64 D.size, .slice v.pE v.nE v.cE, .slice v.pW v.nW v.cW, .int .i64 D.fuse, .bool D.down] 25
  have HV := Lib.hid (h.below hb); have HB := Lib.hid hb; have XB := Lib.hid xb; have HW2 := Lib.hid hW2
  have HPw : Hid (∀ W, Below W2.heap.size W2 W → Calls Try.prog 31 #[.agg #[.int .i64 D.size, .slice v.pE v.nE v.cE, .slice v.pW v.nW v.cW, .int .i64 D.fuse, .bool D.down]] W fun e w' => e = .returned (.int .i64 (rdy D)) ∧ Below W.heap.size W w') := Lib.hid (fun W hb => rpower_any D v W (HV.out.below hb) hc)
  obtain ⟨q0, q1, q2, q3, q4⟩ := xb.five
  obtain ⟨r, hr⟩ : ∃ r, r = rdy D := ⟨_, rfl⟩
  rw [← hr] at HPw
  have HR := Lib.hid hr
  clear h hc hb xb hW2 hr
  by_cases h0 : r = 0
  case neg =>
    have t0 : (r != 0) = true := by rw [bne_iff_ne]; exact h0
    have F : Hid (r = rdE D nm c) := Lib.hid (by
      show r = if rdy D = 0 then findE D.E nm c else rdy D
      rw [← HR.out, if_neg h0])
    clear h0
    go_enter Try.func53, Try.ntmps53
    go_wp2_with fail
    rw [← HW2.out]
    refine (HPw.out _ (Below.refl _ _)).mono ?_
    rintro e w1 ⟨rfl, b1⟩
    have B := Lib.hid (HB.out.trans (b1.mono HB.out.size))
    clear b1
    go_wp2_with fail
    go_ret
    exact ⟨ret_int F.out, B.out⟩
  subst h0
  have hr0 : rdy D = 0 := HR.out.symm
  have HE0 := Lib.hid (place_eq D hr0 nm c)
  have hso : Sorted D.E := (lim_rdy hr0).1
  have hlE : D.E.length ≤ 1000000 := (lim_rdy hr0).2.1
  have hfp := fnd_pos hso nm
  obtain ⟨p, hp⟩ : ∃ p, p = fnd D.E nm := ⟨_, rfl⟩
  have HFi : Hid (∀ W, Below W2.heap.size W2 W → Calls Try.prog 34 #[.slice v.pE v.nE v.cE, .string nm] W fun e w' => e = .returned (.int .i64 p) ∧ Below W.heap.size W w') := Lib.hid (fun W hb => by rw [hp]; exact rFind_any D.E v.pE v.nE v.cE nm W HV.out.hE (HV.out.below hb).E HV.out.l1)
  rw [← hp] at hfp
  have HFP := Lib.hid hfp
  clear hfp hp hso
  by_cases hi : isAt D.E nm = true
  case neg =>
    have hpe : p = -1 := by rw [HFP.out, if_neg hi]
    have F : Hid ((3 : Int) = rdE D nm c) := Lib.hid (by rw [HE0.out]; unfold findE; rw [if_neg hi])
    subst hpe
    clear hi hr0
    go_enter Try.func53, Try.ntmps53
    go_wp2_with fail
    rw [← HW2.out]
    refine (HPw.out _ (Below.refl _ _)).mono ?_
    rintro e w1 ⟨rfl, b1⟩
    have B := Lib.hid (HB.out.trans (b1.mono HB.out.size))
    have B1 := Lib.hid b1
    obtain ⟨q0, q1, q2, q3, q4⟩ := (XB.out.below b1).five
    clear b1
    go_wp2_with fail
    refine (HFi.out _ B1.out).mono ?_
    rintro e w2 ⟨rfl, b2⟩
    have C := Lib.hid (B.out.trans (b2.mono B.out.size))
    clear b2
    go_wp2_with fail
    go_ret
    exact ⟨ret_int F.out, C.out⟩
  obtain ⟨q, hq⟩ : ∃ q, q = pos D.E nm := ⟨_, rfl⟩
  have hpe : p = (q : Int) := by rw [HFP.out, if_pos hi, hq]
  have hqE : q < D.E.length := by rw [hq]; exact isAt_lt hi
  have hlk : lookN D.E nm = many (D.E.getD q default).2 := by unfold lookN; rw [if_pos hi, hq]
  have HFE : Hid (rdE D nm c = if decide (0 ≤ c) && decide (c < (lookN D.E nm : Nat)) then 0 else 1) := Lib.hid (by rw [HE0.out]; unfold findE; rw [if_pos hi])
  subst hpe
  have HAT : Hid (∀ W, Below W2.heap.size W2 W → ∃ g o, v.pE = some ⟨g, o, none⟩ ∧ W.cell? ⟨g, o + q * 2 + 1, none⟩ = some (.string (D.E.getD q default).2) ∧ (D.E.getD q default).2.size ≤ 140737488355328) := Lib.hid (fun W hb => by
    obtain ⟨g, o, e, _, _, f1, _, s4⟩ := (HV.out.below hb).E q hqE
    exact ⟨g, o, e, f1, s4⟩)
  obtain ⟨yy, hyy⟩ : ∃ yy, yy = (D.E.getD q default).2 := ⟨_, rfl⟩
  rw [← hyy] at HAT hlk
  obtain ⟨M, hM⟩ : ∃ M, M = many yy := ⟨_, rfl⟩
  rw [hlk, ← hM] at HFE
  have e1 : (yy.size : Int) / 64 = (M : Int) := by rw [hM]; unfold many; omega
  have e2 : (yy.size : Int).tdiv 64 = (M : Int) := by rw [Int.tdiv_eq_ediv_of_nonneg (by omega)]; exact e1
  have hm : M ≤ yy.size := by rw [hM]; exact Nat.div_le_self _ _
  have m3 : (0 : Int) ≤ (q : Int) := by omega
  have m4 : (q : Int) < (v.nE : Int) := by have := HV.out.hE; omega
  have g0 : decide ((q : Int) < 0) = false := decide_eq_false (by omega)
  have q9 : (q : Int) ≤ 1000000 := by omega
  have HM : Hid (∀ k : Nat, k ≤ 140737488355328 → IntKind.i64.wrap (k : Int) = (k : Int)) := Lib.hid (fun k hk => IntWalk.i64_in _ (by omega))
  clear hi hq hqE hlk hyy hM hr0 hlE HFP
  have hcs : (c < 0 ∨ (0 ≤ c ∧ (M : Int) ≤ c)) ∨ (0 ≤ c ∧ c < (M : Int)) := by omega
  rcases hcs with hcs | hcs
  · have F : Hid ((1 : Int) = rdE D nm c) := Lib.hid (by
      rw [HFE.out, if_neg]
      rw [Bool.and_eq_true, decide_eq_true_eq, decide_eq_true_eq]
      omega)
    rcases hcs with hcs | hcs
    · have t2 : decide (c < 0) = true := decide_eq_true hcs
      clear hcs
      go_enter Try.func53, Try.ntmps53
      go_wp2_with fail
      rw [← HW2.out]
      refine (HPw.out _ (Below.refl _ _)).mono ?_
      rintro e w1 ⟨rfl, b1⟩
      have B := Lib.hid (HB.out.trans (b1.mono HB.out.size))
      have B1 := Lib.hid b1
      obtain ⟨q0, q1, q2, q3, q4⟩ := (XB.out.below b1).five
      clear b1
      go_wp2_with fail
      refine (HFi.out _ B1.out).mono ?_
      rintro e w2 ⟨rfl, b2⟩
      have C := Lib.hid (B.out.trans (b2.mono B.out.size))
      clear b2
      go_wp2_with fail
      go_ret
      exact ⟨ret_int F.out, C.out⟩
    · have t2 : decide (c < 0) = false := decide_eq_false (by omega)
      have t3 : decide ((M : Int) ≤ c) = true := decide_eq_true hcs.2
      clear hcs
      go_enter Try.func53, Try.ntmps53
      go_wp2_with fail
      rw [← HW2.out]
      refine (HPw.out _ (Below.refl _ _)).mono ?_
      rintro e w1 ⟨rfl, b1⟩
      have B := Lib.hid (HB.out.trans (b1.mono HB.out.size))
      have B1 := Lib.hid b1
      have XB1 := Lib.hid (XB.out.below b1)
      obtain ⟨q0, q1, q2, q3, q4⟩ := XB1.out.five
      clear b1
      go_wp2_with fail
      refine (HFi.out _ B1.out).mono ?_
      rintro e w2 ⟨rfl, b2⟩
      have C := Lib.hid (B.out.trans (b2.mono B.out.size))
      obtain ⟨q0, q1, q2, q3, q4⟩ := (XB1.out.below b2).five
      obtain ⟨g, o, hpE, f1, s4⟩ := HAT.out w2 (B1.out.trans (b2.mono B1.out.size))
      have e3 := HM.out M (by omega)
      rw [hpE] at q1
      clear b2
      go_wp2_with fail
      go_ret
      exact ⟨ret_int F.out, C.out⟩
  · have F : Hid ((0 : Int) = rdE D nm c) := Lib.hid (by
      rw [HFE.out, if_pos]
      rw [Bool.and_eq_true, decide_eq_true_eq, decide_eq_true_eq]
      omega)
    have t2 : decide (c < 0) = false := decide_eq_false (by omega)
    have t3 : decide ((M : Int) ≤ c) = false := decide_eq_false (by omega)
    clear hcs
    go_enter Try.func53, Try.ntmps53
    go_wp2_with fail
    rw [← HW2.out]
    refine (HPw.out _ (Below.refl _ _)).mono ?_
    rintro e w1 ⟨rfl, b1⟩
    have B := Lib.hid (HB.out.trans (b1.mono HB.out.size))
    have B1 := Lib.hid b1
    have XB1 := Lib.hid (XB.out.below b1)
    obtain ⟨q0, q1, q2, q3, q4⟩ := XB1.out.five
    clear b1
    go_wp2_with fail
    refine (HFi.out _ B1.out).mono ?_
    rintro e w2 ⟨rfl, b2⟩
    have C := Lib.hid (B.out.trans (b2.mono B.out.size))
    obtain ⟨q0, q1, q2, q3, q4⟩ := (XB1.out.below b2).five
    obtain ⟨g, o, hpE, f1, s4⟩ := HAT.out w2 (B1.out.trans (b2.mono B1.out.size))
    have e3 := HM.out M (by omega)
    rw [hpE] at q1
    clear b2
    go_wp2_with fail
    go_ret
    exact ⟨ret_int F.out, C.out⟩
end Go.Proofs.Ytejmbbhbimgheaa.Dk
namespace Go.Proofs.Ytejmbbhbimgheaa.Dk
open Go.RowKit Go.Op Rw

theorem rd_zero {D : Dsk} {nm : ByteArray} {c : Int} (h : rdE D nm c = 0) : rdy D = 0 ∧ findE D.E nm c = 0 := by
  have h2 : (if rdy D = 0 then findE D.E nm c else rdy D) = 0 := h
  split at h2
  · rename_i h0; exact ⟨h0, h2⟩
  · rename_i h0; exact absurd h2 h0
theorem rdO_no {D : Dsk} {nm : ByteArray} {c : Int} (h : rdE D nm c ≠ 0) : rdO D nm c = ⟨#[]⟩ := by
  show (if rdy D = 0 ∧ findE D.E nm c = 0 then seenO D.W nm (D.E.getD (pos D.E nm) default).2 c.toNat D.W.length else (⟨#[]⟩ : ByteArray)) = _
  rw [if_neg]
  rintro ⟨h1, h2⟩
  exact h (by rw [rdE_ok h1, h2])
/-- what a good place is -/
theorem rd_place {D : Dsk} {nm : ByteArray} {c : Int} (h : rdE D nm c = 0) : ∃ (q n : Nat) (y : ByteArray), q = pos D.E nm ∧ q < D.E.length ∧ c = (n : Int) ∧ y = (D.E.getD q default).2 ∧ (n + 1) * 64 ≤ y.size ∧ isAt D.E nm = true ∧ fnd D.E nm = (q : Int) ∧ (D.E.getD q default).1 = nm ∧ rdO D nm c = seenO D.W nm y n D.W.length := by
  obtain ⟨h0, h1⟩ := rd_zero h
  obtain ⟨hi, h2, h3⟩ := find_good h1
  have hl : lookN D.E nm = many (D.E.getD (pos D.E nm) default).2 := by unfold lookN; rw [if_pos hi]
  refine ⟨pos D.E nm, c.toNat, _, rfl, isAt_lt hi, by omega, rfl, ?_, hi, ?_, ?_, ?_⟩
  · rw [hl] at h3
    unfold many at h3
    omega
  · rw [fnd_pos (lim_rdy h0).1, if_pos hi]
  · unfold isAt at hi
    rw [Bool.and_eq_true] at hi
    exact of_decide_eq_true hi.2
  · rw [rdO_ok h0, if_pos h1]
set_option maxHeartbeats 16000000 in
set_option maxRecDepth 100000 in
theorem rRead_any (D : Dsk) (v : DVal) (nm : ByteArray) (c : Int) (w : World) (h : VarAt w D v) (hc : v.nE ≤ v.cE) :
    Calls Try.prog 21 #[.agg #[.int .i64 D.size, .slice v.pE v.nE v.cE, .slice v.pW v.nW v.cW, .int .i64 D.fuse, .bool D.down], .string nm, .int .i64 c] w fun e w' => e = .returned (.tuple #[.string (rdO D nm c), .int .i64 (rdE D nm c)]) ∧ Below w.heap.size w w' := by
  obtain ⟨W2, hW2⟩ : ∃ W2, W2 = (w.alloc (.cells #[.int .i64 D.size, .slice v.pE v.nE v.cE, .slice v.pW v.nW v.cW, .int .i64 D.fuse, .bool D.down] 25)) := ⟨_, rfl⟩
  have hb : Below w.heap.size w W2 := by rw [hW2]; exact (Below.refl _ _).alloc (Nat.le_refl _) _
  have xb : Boxed W2 w.heap.size [.int .i64 D.size, .slice v.pE v.nE v.cE, .slice v.pW v.nW v.cW, .int .i64 D.fuse, .bool D.down] := by rw [hW2]; exact Boxed.new w #[.int .i64 D.size, .slice v.pE v.nE v.cE, .slice v.pW v.nW v.cW, .int .i64 D.fuse, .bool D.down] 25
  have HV := Lib.hid (h.below hb); have HB := Lib.hid hb; have XB := Lib.hid xb; have HW2 := Lib.hid hW2
  obtain ⟨r, hr⟩ : ∃ r, r = rdE D nm c := ⟨_, rfl⟩
  have HPl : Hid (∀ W, Below W2.heap.size W2 W → Calls Try.prog 53 #[.agg #[.int .i64 D.size, .slice v.pE v.nE v.cE, .slice v.pW v.nW v.cW, .int .i64 D.fuse, .bool D.down], .string nm, .int .i64 c] W fun e w' => e = .returned (.int .i64 r) ∧ Below W.heap.size W w') := Lib.hid (fun W hb => by rw [hr]; exact rplace_any D v nm c W (HV.out.below hb) hc)
  obtain ⟨q0, q1, q2, q3, q4⟩ := xb.five
  have HR := Lib.hid hr
  clear h hc hb xb hW2
  by_cases h0 : r = 0
  case neg =>
    have t0 : (r != 0) = true := by rw [bne_iff_ne]; exact h0
    have F : Hid (⟨#[]⟩ = rdO D nm c ∧ r = rdE D nm c) := Lib.hid ⟨(rdO_no (by rw [← hr]; exact h0)).symm, hr⟩
    clear h0 hr
    go_enter Try.func21, Try.ntmps21
    go_wp2_with fail
    rw [← HW2.out]
    refine (HPl.out _ (Below.refl _ _)).mono ?_
    rintro e w1 ⟨rfl, b1⟩
    have B := Lib.hid (HB.out.trans (b1.mono HB.out.size))
    clear b1
    go_wp2_with fail
    go_ret2
    exact ⟨ret_si F.out.1 F.out.2, B.out⟩
  subst h0
  obtain ⟨q, n, y, hq, hqE, rfl, hy, hyn, _, hfn, hnm, hro⟩ := rd_place hr.symm
  have HFi : Hid (∀ W, Below W2.heap.size W2 W → Calls Try.prog 34 #[.slice v.pE v.nE v.cE, .string nm] W fun e w' => e = .returned (.int .i64 (q : Int)) ∧ Below W.heap.size W w') := Lib.hid (fun W hb => by rw [← hfn]; exact rFind_any D.E v.pE v.nE v.cE nm W HV.out.hE (HV.out.below hb).E HV.out.l1)
  obtain ⟨g, o, hpE, _, _, f1, _, s4⟩ := HV.out.E q hqE
  have HAT : Hid (∀ W, Below W2.heap.size W2 W → W.cell? ⟨g, o + q * 2 + 1, none⟩ = some (.string y)) := Lib.hid (fun W hb => by
    obtain ⟨g', o', e, _, _, f1, _, s4⟩ := (HV.out.below hb).E q hqE
    rw [hpE] at e
    cases e
    rw [hy]; exact f1)
  rw [← hy] at s4
  have HPE := Lib.hid hpE
  have m3 : (0 : Int) ≤ (q : Int) := by omega
  have m4 : (q : Int) < (v.nE : Int) := by have := HV.out.hE; omega
  have r1 : (0 : Int) ≤ 64 * (n : Int) := by omega
  have r2 : 64 * ((n : Int) + 1) ≤ (y.size : Int) := by omega
  have r3 : (y.size : Int) ≤ 140737488355328 := by omega
  have r4 : 64 * (n : Int) ≤ 64 * ((n : Int) + 1) := by omega
  have w1 : IntKind.i64.wrap (64 * (n : Int)) = 64 * (n : Int) := IntWalk.i64_in _ (by omega)
  have w2 : IntKind.i64.wrap (64 * ((n : Int) + 1)) = 64 * ((n : Int) + 1) := IntWalk.i64_in _ (by omega)
  have w3 : IntKind.i64.wrap ((n : Int) + 1) = (n : Int) + 1 := IntWalk.i64_in _ (by omega)
  have n1 : (64 * (n : Int)).toNat = n * 64 := by omega
  have n2 : (64 * ((n : Int) + 1)).toNat = (n + 1) * 64 := by omega
  have hsl : ∀ wx, (Instr.slice 9 (.string y) (some (.int .i64 (64 * (n : Int)))) (some (.int .i64 (64 * ((n : Int) + 1)))) none).run Try.prog wx = .ok (.string (y.extract (n * 64) ((n + 1) * 64))) wx := fun wx => by
    have h := run_slice_string (P := Try.prog) wx 9 y .i64 .i64 (64 * (n : Int)) (64 * ((n : Int) + 1)) Try.underlying9 r1 r4 r2
    rw [n1, n2] at h
    exact h
  have HRO := Lib.hid hro
  have HWL : Hid (v.nW = D.W.length) := Lib.hid HV.out.hW
  have HWA : Hid (∀ W, Below W2.heap.size W2 W → WrsAt W v.pW D.W) := Lib.hid (fun W hb => (HV.out.below hb).W)
  have hnw : v.nW ≤ 9223372036854775807 := HV.out.l2
  have F0 : Hid ((0 : Int) = rdE D nm (n : Int)) := Lib.hid hr
  clear hq hqE hy hyn hfn hnm hro n1 n2 hr f1 hpE
  go_enter Try.func21, Try.ntmps21
  go_wp2_with fail
  rw [← HW2.out]
  refine (HPl.out _ (Below.refl _ _)).mono ?_
  rintro e w1 ⟨rfl, b1⟩
  have HB1 := Lib.hid b1
  clear b1 q0 q1 q2 q3 q4
  go_wp2_with fail
  obtain ⟨BBp, hBBp⟩ : ∃ BBp : World → Prop, BBp = fun W => Below W2.heap.size W2 W := ⟨_, rfl⟩
  have hK : ∀ W, BBp W → BBp W ∧ W.cell? ⟨w.heap.size, 1, none⟩ = some (.slice (some ⟨g, o, none⟩) v.nE v.cE) ∧ W.cell? ⟨g, o + q * 2 + 1, none⟩ = some (.string y) := fun W hh => by
    refine ⟨hh, ?_⟩
    rw [hBBp] at hh
    have h1 := (XB.out.below hh).five.2.1
    rw [HPE.out] at h1
    exact ⟨h1, HAT.out W hh⟩
  have hL : ∀ W W' : World, BBp W → Below W.heap.size W W' → BBp W' := by
    intro W W' hh hb
    rw [hBBp] at hh ⊢
    exact hh.trans (hb.mono hh.size)
  have hD : ∀ W, BBp W → BBp W.drew := fun W hh => hL W _ hh (Below.drew (Below.refl _ W))
  have hEx : ∀ W, BBp W → Below W2.heap.size W2 W := fun W hh => by rw [hBBp] at hh; exact hh
  have h0 : BBp w1 := by rw [hBBp]; exact HB1.out
  have HK := Lib.hid hK; have HL := Lib.hid hL; have HDd := Lib.hid hD; have HEx := Lib.hid hEx; have H0 := Lib.hid h0
  rw [HPE.out] at HFi
  clear hBBp hK hL hD hEx h0
  go_region_held3 (fun W => BBp W ∧ W.cell? ⟨w.heap.size, 1, none⟩ = some (.slice (some ⟨g, o, none⟩) v.nE v.cE) ∧ W.cell? ⟨g, o + q * 2 + 1, none⟩ = some (.string y)) ((refine HK.out _ ?_; repeat (first | exact H0.out | assumption | apply HDd.out))) ((go_at_call 34; ((with_reducible refine (HFi.out _ (HEx.out _ (by repeat (first | exact H0.out | assumption | apply HDd.out)))).mono ?_)); rintro e w' ⟨rfl, hb⟩; have hw := HL.out _ _ (by repeat (first | exact H0.out | assumption | apply HDd.out)) hb; clear hb))
  have HBW := Lib.hid (HEx.out _ hw)
  have q2 : w'.cell? ⟨w.heap.size, 2, none⟩ = some (.slice v.pW v.nW v.cW) := (XB.out.below (HEx.out _ hw)).five.2.2.1
  clear hw hsl r1 r2 r3 r4 w2 w3 m3 m4 HFi HK HL HDd HEx H0
  go_wp2_with fail
  go_loopw [9, 11, 37] (fun s _ i wr => ∃ k : Nat, k ≤ v.nW ∧ i = .int .i64 k ∧ s = .string (seenO D.W nm y n k) ∧ Below W2.heap.size W2 wr) (fun _ _ i _ => v.nW - (intOf i).toNat)
  case atStart => exact ⟨0, by omega, rfl, rfl, HBW.out⟩
  case round =>
    obtain ⟨k, hk, rfl, rfl, hb⟩ := hrel
    by_cases hlt : k < v.nW
    · have hkL : k < D.W.length := by rw [← HWL.out]; exact hlt
      obtain ⟨ga, oa, hpW, hga, d0, d1, d2, s1, s2⟩ := (HWA.out _ hb) k hkL
      obtain ⟨x, hxx⟩ : ∃ x, x = (D.W.getD k default).1 := ⟨_, rfl⟩
      obtain ⟨cc, hcc⟩ : ∃ c, c = (D.W.getD k default).2.1 := ⟨_, rfl⟩
      obtain ⟨dd, hdd⟩ : ∃ y, y = (D.W.getD k default).2.2 := ⟨_, rfl⟩
      have hst : seenO D.W nm y n (k + 1) = if cc = (n : Int) ∧ x = nm then dd else seenO D.W nm y n k := by
        show (match (if (D.W.getD k default).2.1 = (n : Int) ∧ (D.W.getD k default).1 = nm then some (D.W.getD k default).2.2 else seenF D.W nm n k) with | some d => d | none => y.extract (n * 64) ((n + 1) * 64)) = _
        rw [← hxx, ← hcc, ← hdd]
        by_cases e : cc = (n : Int) ∧ x = nm
        · rw [if_pos e, if_pos e]
        · rw [if_neg e, if_neg e]; rfl
      rw [← hxx] at d0 s1; rw [← hcc] at d1; rw [← hdd] at d2 s2
      obtain ⟨so, hso⟩ : ∃ so, so = seenO D.W nm y n k := ⟨_, rfl⟩
      rw [← hso] at hst ⊢
      have m0 : (0 : Int) ≤ (k : Int) := by omega
      have m1 : (k : Int) < (v.nW : Int) := by omega
      have HST := Lib.hid hst
      have HB3 : Hid (∀ cs t, Below W2.heap.size W2 (wr.alloc (.cells cs t))) := Lib.hid (fun cs t => hb.alloc hb.size _)
      have HPW := Lib.hid hpW
      generalize v.pW = pW at d0 d1 d2 hpW
      subst hpW
      clear hxx hcc hdd hst hb hso
      by_cases e1 : x = nm
      · have t1 : (x.toList == nm.toList) = true := by rw [e1]; simp
        by_cases e2 : cc = (n : Int)
        · have t2 : (cc == (n : Int)) = true := by rw [beq_iff_eq]; exact e2
          have F : Hid (dd = seenO D.W nm y n (k + 1)) := Lib.hid (by rw [HST.out, if_pos ⟨e2, e1⟩])
          clear e1 e2
          go_wp2_with fail
          go_roundw
          case rel => exact ⟨k + 1, by omega, by go_num, by rw [F.out], HB3.out _ _⟩
          case measure => simp [intOf]; omega
        · have t2 : (cc == (n : Int)) = false := by rw [beq_eq_false_iff_ne]; exact e2
          have F : Hid (so = seenO D.W nm y n (k + 1)) := Lib.hid (by rw [HST.out, if_neg (fun hh => e2 hh.1)])
          clear e1 e2
          go_wp2_with fail
          go_roundw
          case rel => exact ⟨k + 1, by omega, by go_num, by rw [F.out], HB3.out _ _⟩
          case measure => simp [intOf]; omega
      · have t1 : (x.toList == nm.toList) = false := by rw [beq_eq_false_iff_ne]; exact fun hh => e1 (toList_inj hh)
        have F : Hid (so = seenO D.W nm y n (k + 1)) := Lib.hid (by rw [HST.out, if_neg (fun hh => e1 hh.2)])
        clear e1
        go_wp2_with fail
        go_roundw
        case rel => exact ⟨k + 1, by omega, by go_num, by rw [F.out], HB3.out _ _⟩
        case measure => simp [intOf]; omega
    · have hke : k = v.nW := by omega
      have F : Hid (seenO D.W nm y n k = rdO D nm (n : Int)) := Lib.hid (by rw [HRO.out, hke, HWL.out])
      have HB3 := Lib.hid hb
      obtain ⟨so, hso⟩ : ∃ so, so = seenO D.W nm y n k := ⟨_, rfl⟩
      rw [← hso] at F ⊢
      have t : decide (k < v.nW) = false := decide_eq_false hlt
      clear hb hso hke
      go_wp2_with fail
      go_ret2
      exact ⟨ret_si F.out F0.out, HB.out.trans (HB3.out.mono HB.out.size)⟩
end Go.Proofs.Ytejmbbhbimgheaa.Dk
