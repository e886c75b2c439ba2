/- The calls of package disk, as functions of a disk. -/
import Derived.Test.YtgpheofdeflhdaaDkWalkFr
import Derived.Test.YtgpheofdeflhdaaDkWalkMv
import Derived.Test.YtgpheofdeflhdaaDkWalkO
import Derived.Test.YtgpheofdeflhdaaDkWalkY
namespace Go.Proofs.Ytgpheofdeflhdaa.Dk
open Go.RowKit Go.Op

structure Lim (D : Dsk) : Prop where
  e : D.E.length ≤ 9223372036854775807
  w : D.W.length ≤ 9223372036854775807
  f : D.fuse ≤ 9223372036854775807
def rdy (D : Dsk) : Int := readyE D.size D.E D.W D.fuse D.down
def chg (D D' : Dsk) : Dsk := chgD D.size D.E D.W D.fuse D.down D'
def chgR (D : Dsk) (er : Int) : Int := chgE D.size D.E D.W D.fuse D.down er
def nwD (D : Dsk) (nm : ByteArray) (s : Int) : Dsk := chg D (adD D.size D.E D.W D.fuse D.down nm s)
def nwE (D : Dsk) (nm : ByteArray) (s : Int) : Int := chgR D (adE D.size D.E nm s)
def frD (D : Dsk) (N : List ByteArray) : Dsk := chg D (freD D.size D.E D.W D.fuse D.down N)
def frE (D : Dsk) (N : List ByteArray) : Int := chgR D (freE D.E N)
def mvD (D : Dsk) (fr to : ByteArray) : Dsk := chg D (movD D.size D.E D.W D.fuse D.down fr to)
def mvE (D : Dsk) (fr to : ByteArray) : Int := chgR D (movE D.E fr to)
def wtD (D : Dsk) (nm : ByteArray) (s : Int) (d : ByteArray) : Dsk := chg D (wrD D.size D.E D.W D.fuse D.down nm s d)
def wtE (D : Dsk) (nm : ByteArray) (s : Int) (d : ByteArray) : Int := chgR D (wrE D.E D.W D.fuse nm s d)
def syD (D : Dsk) : Dsk := chg D (synD D.size D.E D.W D.fuse D.down)
def syE (D : Dsk) : Int := chgR D 0
def crD (D : Dsk) (K : List Bool) : Dsk := craD D.size D.E D.W D.fuse K
def ckE (D : Dsk) : Int := chkE D.size D.E D.W D.fuse
def rdO (D : Dsk) (b : ByteArray) (c : Int) : ByteArray := readO D.size D.E D.W D.fuse D.down b c
def rdE (D : Dsk) (b : ByteArray) (c : Int) : Int := readE D.size D.E D.W D.fuse D.down b c
def rmA (D : Dsk) : Int := roomA D.size D.E D.W D.fuse D.down
def scA (D : Dsk) (b : ByteArray) : Int := secA D.size D.E D.W D.fuse D.down b
def scE (D : Dsk) (b : ByteArray) : Int := secE D.size D.E D.W D.fuse D.down b

theorem chg_if (D D' : Dsk) : chg D D' = if rdy D = 2 then Dsk0 else if rdy D = 0 then D' else D := rfl
theorem chgR_if (D : Dsk) (er : Int) : chgR D er = if rdy D = 2 then 2 else if rdy D = 0 then er else rdy D := rfl
theorem lim0 : Lim Dsk0 := ⟨by decide, by decide, by decide⟩
theorem lim_chg {D D' : Dsk} (h : Lim D) (k : rdy D = 0 → Lim D') : Lim (chg D D') := by
  rw [chg_if]
  split
  · exact lim0
  · split
    · rename_i h0; exact k h0
    · exact h
theorem lim_rdy {D : Dsk} (h : rdy D = 0) : Sorted D.E ∧ D.E.length ≤ 1000000 ∧ D.W.length ≤ 16384 ∧ -1 ≤ D.fuse := lim_of h
theorem setlE_length (kp : Nat → Bool) : ∀ (L : List Wr) (i : Nat) (C : List Ext), (setlE kp i L C).length = C.length
  | [], _, _ => rfl
  | x :: L, i, C => by
    simp only [setlE]
    rw [setlE_length kp L]
    split
    · unfold doneE; rw [List.length_set]
    · rfl
theorem lim_nw {D : Dsk} (h : Lim D) (nm : ByteArray) (s : Int) : Lim (nwD D nm s) := lim_chg h fun h0 => by
  obtain ⟨_, h1, h2, _⟩ := lim_rdy h0
  unfold adD
  split
  · exact ⟨by simp only; rw [insE_length _ _ _ _ (pos_le _ _)]; omega, h.w, h.f⟩
  · exact h
theorem lim_fr {D : Dsk} (h : Lim D) (N : List ByteArray) : Lim (frD D N) := lim_chg h fun _ => by
  unfold freD
  split
  · exact ⟨Nat.le_trans (List.length_filter_le _ _) h.e, Nat.le_trans (List.length_filter_le _ _) h.w, h.f⟩
  · exact h
theorem mvE3_length (E : List Ext) (fr to : ByteArray) : (mvE3 E fr to).length ≤ E.length + 1 := by
  unfold mvE3
  rw [insE_length _ _ _ _ (pos_le _ _)]
  have h1 := (mvE2_sub E fr to).length_le
  have h2 := (mvE1_sub E to).length_le
  omega
theorem mvL_length (L : List Wr) (fr to : ByteArray) : (mvL L fr to).length ≤ L.length := by
  unfold mvL
  rw [List.length_map]
  exact List.length_filter_le _ _
theorem lim_mv {D : Dsk} (h : Lim D) (fr to : ByteArray) : Lim (mvD D fr to) := lim_chg h fun h0 => by
  obtain ⟨_, h1, h2, _⟩ := lim_rdy h0
  unfold movD
  split
  · refine ⟨?_, ?_, h.f⟩
    · have := mvE3_length D.E fr to; simp only; omega
    · have := mvL_length D.W fr to; simp only; omega
  · exact h
theorem lim_wt {D : Dsk} (h : Lim D) (nm : ByteArray) (s : Int) (d : ByteArray) : Lim (wtD D nm s d) := lim_chg h fun h0 => by
  obtain ⟨_, h1, h2, _⟩ := lim_rdy h0
  have h3 := h.f
  unfold wrD
  split
  · refine ⟨h.e, by simp; omega, ?_⟩
    simp only
    split <;> omega
  · exact h
theorem lim_sy {D : Dsk} (h : Lim D) : Lim (syD D) := lim_chg h fun h0 => by
  obtain ⟨_, h1, h2, _⟩ := lim_rdy h0
  unfold synD
  exact ⟨by simp only; rw [setlE_length]; omega, by simp, h.f⟩
theorem lim_cr {D : Dsk} (h : Lim D) (K : List Bool) : Lim (crD D K) := by
  unfold crD craD
  split
  · exact ⟨by simp only; rw [setlE_length]; exact h.e, by simp, by show (-1 : Int) ≤ 9223372036854775807; omega⟩
  · exact lim0

/-- where a disk's rows lie -/
structure DVal where
  pE : Option Addr
  nE : Nat
  cE : Nat
  pW : Option Addr
  nW : Nat
  cW : Nat
/-- rows that read as a disk's -/
structure VarAt (W : World) (D : Dsk) (v : DVal) : Prop where
  hE : v.nE = D.E.length
  E : ExtAt W v.pE D.E
  hW : v.nW = D.W.length
  W : WrsAt W v.pW D.W
  lim : Lim D
def DVal.above (v : DVal) (C : Nat) : Prop := (∀ a, v.pE = some a → C ≤ a.block) ∧ (∀ a, v.pW = some a → C ≤ a.block)
theorem VarAt.below {w w' : World} {D : Dsk} {v : DVal} (h : VarAt w D v) (hb : Below w.heap.size w w') : VarAt w' D v := ⟨h.hE, h.E.below hb, h.hW, h.W.below hb, h.lim⟩
theorem VarAt.bar {w w' : World} {D : Dsk} {v : DVal} {p : Nat → Prop} {C : Nat} (h : VarAt w D v) (ha : v.above C) (hb : Bar w w' p) (hp : ∀ k, p k → k < C) : VarAt w' D v :=
  ⟨h.hE, h.E.bar hb (fun a e hq => by have := ha.1 a e; have := hp _ hq; omega), h.hW, h.W.bar hb (fun a e hq => by have := ha.2 a e; have := hp _ hq; omega), h.lim⟩
theorem VarAt.l1 {w : World} {D : Dsk} {v : DVal} (h : VarAt w D v) : v.nE ≤ 9223372036854775807 := by rw [h.hE]; exact h.lim.e
theorem VarAt.l2 {w : World} {D : Dsk} {v : DVal} (h : VarAt w D v) : v.nW ≤ 9223372036854775807 := by rw [h.hW]; exact h.lim.w
def AnsP (w : World) (D : Dsk) (er : Int) (e : Ending) (w' : World) : Prop := ∃ v : DVal, e = .returned (.tuple #[.agg #[.int .i64 D.size, .slice v.pE v.nE v.cE, .slice v.pW v.nW v.cW, .int .i64 D.fuse, .bool D.down], .int .i64 er]) ∧ VarAt w' D v ∧ v.above w.heap.size ∧ Below w.heap.size w w'
theorem AnsP.of {w w' : World} {D : Dsk} {er : Int} {e : Ending} (hl : Lim D) (h : DkP w D er e w') : AnsP w D er e w' := by
  obtain ⟨v, rfl, ⟨pE, nE, cE, pW, nW, cW, rfl, h1, h2, h3, h4, h5, h6⟩, h7⟩ := h
  exact ⟨⟨pE, nE, cE, pW, nW, cW⟩, rfl, ⟨h1, h2, h3, h4, hl⟩, ⟨h5, h6⟩, h7⟩
section
variable {W : World} {D : Dsk} {v : DVal}
theorem nw_call (h : VarAt W D v) (nm : ByteArray) (s : Int) (h1 : nm.size ≤ 140737488355328) : Calls Try.prog 7 #[.agg #[.int .i64 D.size, .slice v.pE v.nE v.cE, .slice v.pW v.nW v.cW, .int .i64 D.fuse, .bool D.down], .string nm, .int .i64 s] W (AnsP W (nwD D nm s) (nwE D nm s)) :=
  (New_any D.size v.pE v.pW v.nE v.cE v.nW v.cW D.fuse D.down D.E D.W nm s W h.hE h.E h.l1 h.hW h.W h.l2 h1).mono fun _ _ h' => AnsP.of (lim_nw h.lim nm s) h'
theorem wt_call (h : VarAt W D v) (nm : ByteArray) (s : Int) (d : ByteArray) (h1 : nm.size ≤ 140737488355328) (h2 : d.size ≤ 140737488355328) : Calls Try.prog 8 #[.agg #[.int .i64 D.size, .slice v.pE v.nE v.cE, .slice v.pW v.nW v.cW, .int .i64 D.fuse, .bool D.down], .string nm, .int .i64 s, .string d] W (AnsP W (wtD D nm s d) (wtE D nm s d)) :=
  (Write_any D.size v.pE v.pW v.nE v.cE v.nW v.cW D.fuse D.down D.E D.W nm s d W h.hE h.E h.l1 h.hW h.W h.l2 h.lim.f h1 h2).mono fun _ _ h' => AnsP.of (lim_wt h.lim nm s d) h'
theorem sy_call (h : VarAt W D v) : Calls Try.prog 9 #[.agg #[.int .i64 D.size, .slice v.pE v.nE v.cE, .slice v.pW v.nW v.cW, .int .i64 D.fuse, .bool D.down]] W (AnsP W (syD D) (syE D)) :=
  (Sync_any D.size v.pE v.pW v.nE v.cE v.nW v.cW D.fuse D.down D.E D.W W h.hE h.E h.l1 h.hW h.W h.l2).mono fun _ _ h' => AnsP.of (lim_sy h.lim) h'
theorem cr_call (h : VarAt W D v) (K : List Bool) (pK : Option Addr) (nK cK : Nat) (hnK : nK = K.length) (hK : Rw.Rd W pK (bools K)) : Calls Try.prog 10 #[.agg #[.int .i64 D.size, .slice v.pE v.nE v.cE, .slice v.pW v.nW v.cW, .int .i64 D.fuse, .bool D.down], .slice pK nK cK] W (AnsP W (crD D K) (ckE D)) :=
  (Crash_any D.size v.pE v.pW v.nE v.cE v.nW v.cW D.fuse D.down D.E D.W K pK nK cK W h.hE h.E h.l1 h.hW h.W h.l2 hnK hK).mono fun _ _ h' => AnsP.of (lim_cr h.lim K) h'
theorem ck_call (h : VarAt W D v) : Calls Try.prog 17 #[.agg #[.int .i64 D.size, .slice v.pE v.nE v.cE, .slice v.pW v.nW v.cW, .int .i64 D.fuse, .bool D.down]] W fun e w' => e = .returned (.int .i64 (ckE D)) ∧ Below W.heap.size W w' :=
  check_any D.size v.pE v.pW v.nE v.cE v.nW v.cW D.fuse D.down D.E D.W W h.hE h.E h.l1 h.hW h.W h.l2
theorem rd_call (h : VarAt W D v) (b : ByteArray) (c : Int) : Calls Try.prog 11 #[.agg #[.int .i64 D.size, .slice v.pE v.nE v.cE, .slice v.pW v.nW v.cW, .int .i64 D.fuse, .bool D.down], .string b, .int .i64 c] W fun e w' => e = .returned (.tuple #[.string (rdO D b c), .int .i64 (rdE D b c)]) ∧ Below W.heap.size W w' :=
  Read_any D.size v.pE v.pW v.nE v.cE v.nW v.cW D.fuse D.down D.E D.W b c W h.hE h.E h.l1 h.hW h.W h.l2
end
/-- a disk that is made -/
def mkD (z : Int) : Dsk := if decide (0 ≤ z) && decide (z ≤ 16384) then ⟨z, [], [], -1, false⟩ else Dsk0
def mkE (z : Int) : Int := if decide (0 ≤ z) && decide (z ≤ 16384) then 0 else 1
theorem mk_call (z : Int) (W : World) : Calls Try.prog 6 #[.int .i64 z] W (AnsP W (mkD z) (mkE z)) :=
  (Make_any z W).mono fun e w' h => by
    obtain ⟨rfl, hb⟩ := h
    refine ⟨⟨none, 0, 0, none, 0, 0⟩, ?_, ?_, ⟨fun _ h => (by cases h), fun _ h => (by cases h)⟩, hb⟩
    · unfold mkR mkD mkE
      split <;> rfl
    · unfold mkD
      split
      · exact ⟨rfl, extAt_nil _ _, rfl, wrsAt_nil _ _, ⟨by simp, by simp, by show (-1 : Int) ≤ 9223372036854775807; omega⟩⟩
      · exact ⟨rfl, extAt_nil _ _, rfl, wrsAt_nil _ _, lim0⟩
end Go.Proofs.Ytgpheofdeflhdaa.Dk
