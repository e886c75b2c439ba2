/- ErrIs TblS TblT TblU TblV TblProg -/
import Derived.Test.YtjnehpkkkmicfaaOrdNum
import Derived.LaidEql
import Derived.Stop.Asserts
import Derived.RowKitTokens
import Derived.Lib.IfaceEq
import Derived.Test.YtjnehpkkkmicfaaBnO
import Derived.Deep.RegionHeld3
import Derived.Test.YtjnehpkkkmicfaaBnN
import Derived.BigQuiet
namespace Go.Proofs.Ytjnehpkkkmicfaa.Er
open Go.RowKit Go.Extern.Stop Go.Stop Go.Extern _root_.Go.Proofs.Ytjnehpkkkmicfaa.Nm

theorem isTypeOf (v : Value) (w : World) : (Extern.ReflectliteType.typeOf #[.iface 26 v]).run Try.prog w = .ok (.iface 143 (.agg #[.pointer (some ⟨0, 26, none⟩)])) w := by kernel_rfl
theorem isComparable (w : World) : ((Extern.ReflectliteType.method fun t => do Extern.Rtype.noPackHeld "Comparable" t; pure (.bool (← typeInfo t).comparable)) #[.agg #[.pointer (some ⟨0, 26, none⟩)]]).run Try.prog w = .ok (.bool true) w := by kernel_rfl
theorem isMethodC (n : Nat) (v : Value) (w : World) : (Go.method (n + 1) 143 v "Comparable").run Try.prog w = .ok (124, v) w := by kernel_rfl
theorem callT (v : Value) (w : World) : (callFunc 79 #[.iface 26 v]).run Try.prog w = .ok (.value (.iface 143 (.agg #[.pointer (some ⟨0, 26, none⟩)]))) w := by
  rw [@run_callFunc_extern Try.prog 79 _ Extern.ReflectliteType.typeOf Try.func79 (by kernel_rfl) (by kernel_rfl) (by kernel_rfl) (by kernel_rfl), isTypeOf]; rfl
theorem callC (w : World) : (callFunc 124 #[.agg #[.pointer (some ⟨0, 26, none⟩)]]).run Try.prog w = .ok (.value (.bool true)) w := by
  rw [@run_callFunc_extern Try.prog 124 _ (Extern.ReflectliteType.method fun t => do Extern.Rtype.noPackHeld "Comparable" t; pure (.bool (← typeInfo t).comparable)) Try.func124 (by kernel_rfl) (by kernel_rfl) (by kernel_rfl) (by kernel_rfl), isComparable]; rfl
theorem isComp : (Try.prog.info? 26).map (·.comparable) = some true := by kernel_rfl
theorem noIsE (v : Value) (xT : TypeId) (w : World) : (Instr.typeAssert (.iface 26 v) xT 145 true).run Try.prog w = .ok (.tuple #[.nilIface, .bool false]) w := run_typeAssert_lacksB Try.underlying145 (by kernel_rfl) (by kernel_rfl) v xT w
theorem noUnwrapE (v : Value) (xT : TypeId) (w : World) : (Instr.typeAssert (.iface 26 v) xT 148 true).run Try.prog w = .ok (.tuple #[.nilIface, .bool false]) w := run_typeAssert_lacksB Try.underlying148 (by kernel_rfl) (by kernel_rfl) v xT w
theorem noUnwrapsE (v : Value) (xT : TypeId) (w : World) : (Instr.typeAssert (.iface 26 v) xT 150 true).run Try.prog w = .ok (.tuple #[.nilIface, .bool false]) w := run_typeAssert_lacksB Try.underlying150 (by kernel_rfl) (by kernel_rfl) v xT w
set_option maxRecDepth 100000 in
theorem is_loop (a b : Int) (w : World) :
    Calls Try.prog 80 #[.iface 26 (.int .i64 a), .iface 26 (.int .i64 b), .bool true] w fun e w' => e = .returned (.bool (a == b)) ∧ w' = w := by
  have nE := noIsE
  have uE := noUnwrapE
  have vE := noUnwrapsE
  have heq := Go.Lib.run_eql_iface_int (P := Try.prog) (t := 95) (tx := 26) (k := .i64) w a b Try.underlying95 isComp Try.underlying26
  cases hab : (a == b) with
  | true =>
    rw [hab] at heq
    go_enter Try.func80, Try.ntmps80
    go_wp2_with fail
    refine wp_loop_rounds 1 ?_
    rw [rounds_succ]
    go_wp2
    go_ret
    exact ⟨rfl, rfl⟩
  | false =>
    rw [hab] at heq
    go_enter Try.func80, Try.ntmps80
    go_wp2_with fail
    refine wp_loop_rounds 1 ?_
    rw [rounds_succ]
    go_wp2
    go_ret
    exact ⟨rfl, rfl⟩
set_option maxRecDepth 100000 in
theorem is_num (a b : Int) (w : World) :
    Calls Try.prog 62 #[.iface 26 (.int .i64 a), .iface 26 (.int .i64 b)] w fun e w' => e = .returned (.bool (a == b)) ∧ w' = w := by
  have mR := fun v w => isMethodC 295 v w
  have hT := callT
  have hC := callC
  go_enter Try.func62, Try.ntmps62
  go_wp2_with fail
  refine (is_loop a b _).mono ?_
  rintro e w1 ⟨rfl, hw⟩
  rw [hw]
  go_wp2_with fail
  go_ret
  exact ⟨rfl, rfl⟩
theorem is_nil (v : Value) (w : World) :
    Calls Try.prog 62 #[.nilIface, .iface 26 v] w fun e w' => e = .returned (.bool false) ∧ w' = w := by
  have hn := run_eql_iface_nil_left (P := Try.prog) w 26 v Try.underlying95
  go_enter Try.func62, Try.ntmps62
  go_wp2_with fail
  go_ret
  exact ⟨rfl, rfl⟩
end Go.Proofs.Ytjnehpkkkmicfaa.Er
namespace Go.Proofs.Ytjnehpkkkmicfaa.Tb2
open Go.RowKit Go.Lib Rw Ls Od _root_.Go.Proofs.Ytjnehpkkkmicfaa.Nm Pk Bt Cn Bk

/-- an error's number as an error: nil, if it is 0 -/
def EV (E : Int) : Value := if E = 0 then .nilIface else .iface 26 (.int .i64 E)
theorem ev_zero : EV 0 = .nilIface := rfl
theorem ev_some {E : Int} (h : E ≠ 0) : EV E = .iface 26 (.int .i64 E) := by unfold EV; rw [if_neg h]
/-- a reader in block g -/
def RB (w : World) (g : Nat) (s : ByteArray) (n a : Nat) : Prop := Blk w g 93 [.string s, .int .i64 (n : Int), .int .i64 (a : Int)]
theorem RB.below {w w' : World} {g : Nat} {s : ByteArray} {n a : Nat} (h : RB w g s n a) (hb : Below w.heap.size w w') : RB w' g s n a := Blk.below h hb (Blk.lt h)
theorem bar_set {a w : World} {g k : Nat} (h : Bar a w (fun i => i = g)) (v : Value) : Bar a (w.setCell ⟨g, k, none⟩ v) (fun i => i = g) := h.setCell rfl v
theorem one_bit (X : List Bool) {a : Nat} (h : a < X.length) : num ((X.drop a).take 1) = (X.getD a false).toNat := by
  have e := getD_take_drop X a 0 (by omega)
  rw [List.take_zero, List.nil_append] at e
  rw [e]; cases X.getD (a + 0) false <;> rfl
set_option maxHeartbeats 4000000 in
set_option maxRecDepth 100000 in
theorem next_ok (s : ByteArray) (n a wd g : Nat) (w : World) (hb : RB w g s n a) (hs : s.size ≤ maxLen) (hc : chk s (n : Int) = 0) (hw : wd ≤ 64) (ha : a + wd ≤ n) :
    Calls Try.prog 77 #[.pointer (some ⟨g, 0, none⟩), .int .i64 (wd : Int)] w fun e w' => e = .returned (.tuple #[.int .u64 (num (((bl (Bt.bytes s) n).drop a).take wd) : Nat), .nilIface]) ∧ RB w' g s n (a + wd) ∧ Bar w w' (fun i => i = g) := by
  have hR := chk_zero hc
  have hn : n ≤ 1048576 := by have := hR.2.1; omega
  have hge : getE s n a wd = 0 := by
    unfold getE
    rw [if_neg (by omega), if_neg (by omega), if_neg (by omega)]
  have hgv : getV s n a wd = num (((bl (Bt.bytes s) n).drop a).take wd) := by
    unfold getV
    rw [if_pos hge]; simp
  have HG := Lib.hid (fun W => get_any s n a wd W hs)
  rw [hge, hgv] at HG
  obtain ⟨V, hV⟩ : ∃ V, V = num (((bl (Bt.bytes s) n).drop a).take wd) := ⟨_, rfl⟩
  rw [← hV] at HG ⊢
  have s1 : IntKind.i64.wrap ((a : Int) + (wd : Int)) = ((a + wd : Nat) : Int) := IntWalk.i64_in _ (by omega)
  obtain ⟨BB, hBB⟩ : ∃ BB : World → Prop, BB = fun W => RB W g s n a ∧ Below w.heap.size w W := ⟨_, rfl⟩
  have hL : ∀ W W', BB W → Below W.heap.size W W' → BB W' := fun W W' h hb => by
    rw [hBB] at h ⊢
    exact ⟨h.1.below hb, h.2.trans (hb.mono h.2.size)⟩
  have hD : ∀ W, BB W → BB W.drew := fun W h => hL W _ h (Below.drew (Below.refl _ W))
  have hK : ∀ W, BB W → BB W ∧ W.cell? ⟨g, 0, none⟩ = some (.string s) ∧ W.cell? ⟨g, 1, none⟩ = some (.int .i64 (n : Int)) ∧ W.cell? ⟨g, 2, none⟩ = some (.int .i64 (a : Int)) := fun W h => by
    refine ⟨h, ?_⟩
    rw [hBB] at h
    exact ⟨Blk.cell h.1 rfl, Blk.cell h.1 rfl, Blk.cell h.1 rfl⟩
  have hE : ∀ W, BB W → RB W g s n a ∧ Below w.heap.size w W := fun W h => by rw [hBB] at h; exact h
  have h0 : BB w := by rw [hBB]; exact ⟨hb, Below.refl _ _⟩
  have HL := Lib.hid hL; have HD := Lib.hid hD; have HK := Lib.hid hK; have HE := Lib.hid hE; have H0 := Lib.hid h0
  clear hBB hL hD hK hE h0 hb hc hR hge hgv hV hs
  obtain ⟨q0, q1, q2⟩ := (HK.out _ H0.out).2
  go_enter Try.func77, Try.ntmps77
  go_wp2_with fail
  go_region_held3 (fun W => BB W ∧ W.cell? ⟨g, 0, none⟩ = some (.string s) ∧ W.cell? ⟨g, 1, none⟩ = some (.int .i64 (n : Int)) ∧ W.cell? ⟨g, 2, none⟩ = some (.int .i64 (a : Int))) ((refine HK.out _ ?_; repeat (first | exact H0.out | assumption | apply HD.out))) (first
    | (go_at_call 46; ((with_reducible refine (HG.out _).mono ?_)); rintro e w' ⟨rfl, hb'⟩; have hw2 := HL.out _ _ (by repeat (first | exact H0.out | assumption | apply HD.out)) hb'; clear hb'))
  all_goals (
    obtain ⟨v0, v1⟩ := HE.out _ hw2
    have c2 := Blk.cell v0 (k := 2) rfl
    have f2 := Blk.free v0 2
    have HS := Lib.hid (Blk.set v0 2 (.int .i64 ((a + wd : Nat) : Int)))
    have HB2 := Lib.hid (bar_set (g := g) (k := 2) (Bar.of_below v1 (fun i => i = g)) (.int .i64 ((a + wd : Nat) : Int)))
    clear v0 v1 hw2 HL HD HK HE H0 q0 q1 q2
    go_wp2_with fail
    refine bodyPost_ret (v := .tuple #[.int .u64 (V : Int), .nilIface]) (by simp [results, Try.results77, go_sem]) rfl ?_
    exact ⟨rfl, HS.out, HB2.out⟩)
set_option maxHeartbeats 4000000 in
set_option maxRecDepth 100000 in
theorem next_no (s : ByteArray) (n a wd g : Nat) (w : World) (hb : RB w g s n a) (hs : s.size ≤ maxLen) (hc : chk s (n : Int) = 0) (hw : wd ≤ 64) (han : a ≤ n) (ha : n < a + wd) :
    Calls Try.prog 77 #[.pointer (some ⟨g, 0, none⟩), .int .i64 (wd : Int)] w fun e w' => e = .returned (.tuple #[.int .u64 0, .iface 26 (.int .i64 5)]) ∧ RB w' g s n a ∧ Bar w w' (fun i => i = g) := by
  have hge : getE s n a wd = 5 := by
    unfold getE
    rw [if_neg (by omega), if_neg (by omega), if_pos (by omega)]
  have HG := Lib.hid (fun W => get_any s n a wd W hs)
  rw [hge] at HG
  generalize getV s n a wd = V at HG
  obtain ⟨BB, hBB⟩ : ∃ BB : World → Prop, BB = fun W => RB W g s n a ∧ Below w.heap.size w W := ⟨_, rfl⟩
  have hL : ∀ W W', BB W → Below W.heap.size W W' → BB W' := fun W W' h hb => by
    rw [hBB] at h ⊢
    exact ⟨h.1.below hb, h.2.trans (hb.mono h.2.size)⟩
  have hD : ∀ W, BB W → BB W.drew := fun W h => hL W _ h (Below.drew (Below.refl _ W))
  have hK : ∀ W, BB W → BB W ∧ W.cell? ⟨g, 0, none⟩ = some (.string s) ∧ W.cell? ⟨g, 1, none⟩ = some (.int .i64 (n : Int)) ∧ W.cell? ⟨g, 2, none⟩ = some (.int .i64 (a : Int)) := fun W h => by
    refine ⟨h, ?_⟩
    rw [hBB] at h
    exact ⟨Blk.cell h.1 rfl, Blk.cell h.1 rfl, Blk.cell h.1 rfl⟩
  have hE : ∀ W, BB W → RB W g s n a ∧ Below w.heap.size w W := fun W h => by rw [hBB] at h; exact h
  have h0 : BB w := by rw [hBB]; exact ⟨hb, Below.refl _ _⟩
  have HL := Lib.hid hL; have HD := Lib.hid hD; have HK := Lib.hid hK; have HE := Lib.hid hE; have H0 := Lib.hid h0
  clear hBB hL hD hK hE h0 hb hc hge hs
  obtain ⟨q0, q1, q2⟩ := (HK.out _ H0.out).2
  go_enter Try.func77, Try.ntmps77
  go_wp2_with fail
  go_region_held3 (fun W => BB W ∧ W.cell? ⟨g, 0, none⟩ = some (.string s) ∧ W.cell? ⟨g, 1, none⟩ = some (.int .i64 (n : Int)) ∧ W.cell? ⟨g, 2, none⟩ = some (.int .i64 (a : Int))) ((refine HK.out _ ?_; repeat (first | exact H0.out | assumption | apply HD.out))) (first
    | (go_at_call 46; ((with_reducible refine (HG.out _).mono ?_)); rintro e w' ⟨rfl, hb'⟩; have hw2 := HL.out _ _ (by repeat (first | exact H0.out | assumption | apply HD.out)) hb'; clear hb'))
  all_goals (
    obtain ⟨v0, v1⟩ := HE.out _ hw2
    have HS := Lib.hid v0
    have HB2 := Lib.hid (Bar.of_below v1 (fun i => i = g))
    clear v0 v1 hw2 HL HD HK HE H0 q0 q1 q2
    go_wp2_with fail
    refine bodyPost_ret (v := .tuple #[.int .u64 0, .iface 26 (.int .i64 5)]) (by simp [results, Try.results77, go_sem]) rfl ?_
    exact ⟨rfl, HS.out, HB2.out⟩)
/-- a step: how much more, why none, and where the reader is then -/
def stepR (X : List Bool) (a : Nat) : Int × Int × Nat :=
  if X.length ≤ a then (0, 5, a) else if X.getD a false = false then (0, 0, a + 1) else if X.length ≤ a + 1 then (0, 5, a + 1) else (if X.getD (a + 1) false then -1 else 1, 0, a + 2)
def SpP (w : World) (g : Nat) (s : ByteArray) (n : Nat) (o : Int × Int × Nat) (e : Ending) (w' : World) : Prop := e = .returned (.tuple #[.int .i64 o.1, EV o.2.1]) ∧ RB w' g s n o.2.2 ∧ Bar w w' (fun i => i = g)
theorem spp_mk {w w' : World} {g n a : Nat} {s : ByteArray} {o : Int × Int × Nat} {v E : Int} {x : Value} (h : o = (v, E, a)) (hx : x = EV E) (hr : RB w' g s n a) (hb : Bar w w' (fun i => i = g)) : SpP w g s n o (.returned (.tuple #[.int .i64 v, x])) w' := by subst h; subst hx; exact ⟨rfl, hr, hb⟩
set_option maxHeartbeats 4000000 in
set_option maxRecDepth 100000 in
theorem step_any (s : ByteArray) (n a g : Nat) (w : World) (hb : RB w g s n a) (hs : s.size ≤ maxLen) (hc : chk s (n : Int) = 0) (ha : a ≤ n) :
    Calls Try.prog 89 #[.pointer (some ⟨g, 0, none⟩)] w (SpP w g s n (stepR (bl (Bt.bytes s) n) a)) := by
  have hxl : (bl (Bt.bytes s) n).length = n := bl_length _ _
  obtain ⟨X, hX⟩ : ∃ X, X = bl (Bt.bytes s) n := ⟨_, rfl⟩
  rw [← hX] at hxl ⊢
  by_cases h1 : n ≤ a
  · have F : Hid (stepR X a = (0, 5, a)) := Lib.hid (by unfold stepR; rw [if_pos (by omega)])
    have H := Lib.hid (next_no s n a 1 g w hb hs hc (by omega) ha (by omega))
    clear hb hs hc ha h1 hX hxl
    go_enter Try.func89, Try.ntmps89
    go_wp2_with fail
    refine H.out.mono ?_
    rintro e w1 ⟨rfl, hr, hbr⟩
    have HR := Lib.hid hr; have HBR := Lib.hid hbr
    clear hr hbr
    go_wp2_with fail
    refine bodyPost_ret (v := .tuple #[.int .i64 0, .iface 26 (.int .i64 5)]) (by simp [results, Try.results89, go_sem]) rfl ?_
    exact spp_mk F.out rfl HR.out HBR.out
  have hv := one_bit X (a := a) (by omega)
  have H := Lib.hid (next_ok s n a 1 g w hb hs hc (by omega) (by omega))
  rw [← hX, hv] at H
  cases hbit : X.getD a false with
  | false =>
    have F : Hid (stepR X a = (0, 0, a + 1)) := Lib.hid (by unfold stepR; rw [if_neg (by omega), if_pos hbit])
    rw [hbit] at H
    clear hb hs hc ha h1 hX hxl hv hbit
    go_enter Try.func89, Try.ntmps89
    go_wp2_with fail
    refine H.out.mono ?_
    rintro e w1 ⟨rfl, hr, hbr⟩
    have HR := Lib.hid hr; have HBR := Lib.hid hbr
    clear hr hbr
    go_wp2_with fail
    refine bodyPost_ret (v := .tuple #[.int .i64 0, .nilIface]) (by simp [results, Try.results89, go_sem]) rfl ?_
    exact spp_mk F.out rfl HR.out HBR.out
  | true =>
    rw [hbit] at H
    by_cases h2 : n ≤ a + 1
    · have F : Hid (stepR X a = (0, 5, a + 1)) := Lib.hid (by unfold stepR; rw [if_neg (by omega), if_neg (by rw [hbit]; decide), if_pos (by omega)])
      have H2 := Lib.hid (fun W (h : RB W g s n (a + 1)) => next_no s n (a + 1) 1 g W h hs hc (by omega) (by omega) (by omega))
      clear hb hs hc ha h1 hX hxl hv hbit h2
      go_enter Try.func89, Try.ntmps89
      go_wp2_with fail
      refine H.out.mono ?_
      rintro e w1 ⟨rfl, hr, hbr⟩
      have HR := Lib.hid hr; have HBR := Lib.hid hbr
      clear hr hbr
      go_wp2_with fail
      refine (H2.out _ HR.out).mono ?_
      rintro e w2 ⟨rfl, hr, hbr⟩
      have HR2 := Lib.hid hr; have HBR2 := Lib.hid (HBR.out.trans hbr)
      clear hr hbr
      go_wp2_with fail
      refine bodyPost_ret (v := .tuple #[.int .i64 0, .iface 26 (.int .i64 5)]) (by simp [results, Try.results89, go_sem]) rfl ?_
      exact spp_mk F.out rfl HR2.out HBR2.out
    · have hv2 := one_bit X (a := a + 1) (by omega)
      have H2 := Lib.hid (fun W (h : RB W g s n (a + 1)) => next_ok s n (a + 1) 1 g W h hs hc (by omega) (by omega))
      rw [← hX, hv2] at H2
      cases hbit2 : X.getD (a + 1) false with
      | false =>
        have F : Hid (stepR X a = (1, 0, a + 1 + 1)) := Lib.hid (by unfold stepR; rw [if_neg (by omega), if_neg (by rw [hbit]; decide), if_neg (by omega), hbit2]; rfl)
        rw [hbit2] at H2
        clear hb hs hc ha h1 hX hxl hv hbit h2 hv2 hbit2
        go_enter Try.func89, Try.ntmps89
        go_wp2_with fail
        refine H.out.mono ?_
        rintro e w1 ⟨rfl, hr, hbr⟩
        have HR := Lib.hid hr; have HBR := Lib.hid hbr
        clear hr hbr
        go_wp2_with fail
        refine (H2.out _ HR.out).mono ?_
        rintro e w2 ⟨rfl, hr, hbr⟩
        have HR2 := Lib.hid hr; have HBR2 := Lib.hid (HBR.out.trans hbr)
        clear hr hbr
        go_wp2_with fail
        refine bodyPost_ret (v := .tuple #[.int .i64 1, .nilIface]) (by simp [results, Try.results89, go_sem]) rfl ?_
        exact spp_mk F.out rfl HR2.out HBR2.out
      | true =>
        have F : Hid (stepR X a = (-1, 0, a + 1 + 1)) := Lib.hid (by unfold stepR; rw [if_neg (by omega), if_neg (by rw [hbit]; decide), if_neg (by omega), hbit2]; rfl)
        rw [hbit2] at H2
        clear hb hs hc ha h1 hX hxl hv hbit h2 hv2 hbit2
        go_enter Try.func89, Try.ntmps89
        go_wp2_with fail
        refine H.out.mono ?_
        rintro e w1 ⟨rfl, hr, hbr⟩
        have HR := Lib.hid hr; have HBR := Lib.hid hbr
        clear hr hbr
        go_wp2_with fail
        refine (H2.out _ HR.out).mono ?_
        rintro e w2 ⟨rfl, hr, hbr⟩
        have HR2 := Lib.hid hr; have HBR2 := Lib.hid (HBR.out.trans hbr)
        clear hr hbr
        go_wp2_with fail
        refine bodyPost_ret (v := .tuple #[.int .i64 (-1), .nilIface]) (by simp [results, Try.results89, go_sem]) rfl ?_
        exact spp_mk F.out rfl HR2.out HBR2.out
end Go.Proofs.Ytjnehpkkkmicfaa.Tb2
namespace Go.Proofs.Ytjnehpkkkmicfaa.Tb2
open Go.RowKit Go.Lib Rw Ls Od _root_.Go.Proofs.Ytjnehpkkkmicfaa.Nm Pk Bt Cn Bk

theorem drop_at2 (X : List Bool) {a : Nat} (h : a < X.length) : X.drop a = X.getD a false :: X.drop (a + 1) := by
  rw [List.drop_eq_getElem_cons h, List.getD_eq_getElem?_getD, List.getElem?_eq_getElem h]; rfl
theorem step_cases (X : List Bool) (a : Nat) : (X.length ≤ a ∧ stepR X a = (0, 5, a)) ∨ (a < X.length ∧ X.getD a false = false ∧ stepR X a = (0, 0, a + 1)) ∨ (a < X.length ∧ X.getD a false = true ∧ X.length ≤ a + 1 ∧ stepR X a = (0, 5, a + 1)) ∨ (a + 1 < X.length ∧ X.getD a false = true ∧ X.getD (a + 1) false = false ∧ stepR X a = (1, 0, a + 2)) ∨ (a + 1 < X.length ∧ X.getD a false = true ∧ X.getD (a + 1) false = true ∧ stepR X a = (-1, 0, a + 2)) := by
  unfold stepR
  by_cases h1 : X.length ≤ a
  · exact .inl ⟨h1, if_pos h1⟩
  · rw [if_neg h1]
    cases hb : X.getD a false with
    | false => exact .inr (.inl ⟨by omega, rfl, rfl⟩)
    | true =>
      by_cases h2 : X.length ≤ a + 1
      · rw [if_pos h2]; exact .inr (.inr (.inl ⟨by omega, rfl, h2, rfl⟩))
      · rw [if_neg h2]
        cases hd : X.getD (a + 1) false with
        | false => exact .inr (.inr (.inr (.inl ⟨by omega, rfl, rfl, rfl⟩)))
        | true => exact .inr (.inr (.inr (.inr ⟨by omega, rfl, rfl, rfl⟩)))
/-- what one step makes of one length's reading -/
theorem one_step (X : List Bool) (a : Nat) (u w : Bool) (z : Int) : oneL (X.drop a) u w z =
    if (stepR X a).2.1 ≠ 0 then (0, [], 5)
    else if (stepR X a).1 = 0 then (z, X.drop (stepR X a).2.2, 0)
    else if z + (stepR X a).1 < 0 ∨ 15 < z + (stepR X a).1 ∨ ((u || decide ((stepR X a).1 = 1)) && (w || decide ((stepR X a).1 = -1))) = true then (0, [], 7)
    else oneL (X.drop (stepR X a).2.2) (u || decide ((stepR X a).1 = 1)) (w || decide ((stepR X a).1 = -1)) (z + (stepR X a).1) := by
  rcases step_cases X a with ⟨h, e⟩ | ⟨h, hb, e⟩ | ⟨h, hb, h2, e⟩ | ⟨h, hb, hd, e⟩ | ⟨h, hb, hd, e⟩
  · rw [e, List.drop_eq_nil_of_le h]; rfl
  · rw [e, drop_at2 X h, hb]; rfl
  · rw [e, drop_at2 X h, hb, List.drop_eq_nil_of_le h2]; rfl
  · rw [e, drop_at2 X (by omega), hb, drop_at2 X h, hd]
    rw [show a + 1 + 1 = a + 2 from rfl]
    generalize X.drop (a + 2) = R
    simp [oneL]
  · rw [e, drop_at2 X (by omega), hb, drop_at2 X h, hd]
    rw [show a + 1 + 1 = a + 2 from rfl]
    generalize X.drop (a + 2) = R
    simp [oneL, Int.sub_eq_add_neg]
/-- one length, as it is told: where the reader is then is told where there is no error -/
def LnP (w : World) (g : Nat) (s : ByteArray) (n : Nat) (X : List Bool) (o : Int × List Bool × Int) (e : Ending) (w' : World) : Prop := e = .returned (.tuple #[.int .i64 o.1, EV o.2.2]) ∧ ∃ a, a ≤ n ∧ RB w' g s n a ∧ (o.2.2 = 0 → X.drop a = o.2.1) ∧ Bar w w' (fun i => i = g)
theorem lnp_mk {w w' : World} {g n a : Nat} {s : ByteArray} {X : List Bool} {o : Int × List Bool × Int} {v E : Int} {x : Value} (h1 : o.1 = v) (h2 : o.2.2 = E) (hx : x = EV E) (ha : a ≤ n) (hr : RB w' g s n a) (hd : o.2.2 = 0 → X.drop a = o.2.1) (hb : Bar w w' (fun i => i = g)) : LnP w g s n X o (.returned (.tuple #[.int .i64 v, x])) w' := by subst h1; subst h2; subst hx; exact ⟨rfl, a, ha, hr, hd, hb⟩
set_option maxHeartbeats 8000000 in
set_option maxRecDepth 100000 in
theorem length_any (s : ByteArray) (n a z0 g : Nat) (w : World) (hb : RB w g s n a) (hs : s.size ≤ maxLen) (hc : chk s (n : Int) = 0) (ha : a ≤ n) (hz : z0 ≤ 15) :
    Calls Try.prog 78 #[.pointer (some ⟨g, 0, none⟩), .int .i64 (z0 : Int)] w (LnP w g s n (bl (Bt.bytes s) n) (oneL ((bl (Bt.bytes s) n).drop a) false false z0)) := by
  have hxl : (bl (Bt.bytes s) n).length = n := bl_length _ _
  have HS0 := Lib.hid (fun (W : World) a (h : RB W g s n a) (ha : a ≤ n) => step_any s n a g W h hs hc ha)
  obtain ⟨X, hX⟩ : ∃ X, X = bl (Bt.bytes s) n := ⟨_, rfl⟩
  rw [← hX] at hxl HS0 ⊢
  obtain ⟨o, ho⟩ : ∃ o, o = oneL (X.drop a) false false z0 := ⟨_, rfl⟩
  rw [← ho]
  have HO := Lib.hid ho
  have HXL := Lib.hid hxl
  have HR0 := Lib.hid hb
  have HBR0 : Hid (Bar w w (fun i => i = g)) := Lib.hid (Bar.refl _ _)
  clear hs hc hX ho hxl hb
  go_enter Try.func78, Try.ntmps78
  go_wp2_with fail
  obtain ⟨fm, hfm⟩ : ∃ fm : World → Nat, fm = fun W => n - (RowKit.intOf ((W.cell? ⟨g, 2, none⟩).getD (.bool false))).toNat := ⟨_, rfl⟩
  have HFM : Hid (∀ W p, RB W g s n p → fm W = n - p) := Lib.hid (fun W p h => by
    have c := Blk.cell h (k := 2) rfl
    rw [hfm]
    show n - (RowKit.intOf ((W.cell? ⟨g, 2, none⟩).getD (.bool false))).toNat = n - p
    rw [c]; simp [RowKit.intOf])
  clear hfm
  go_loopw [6, 7] (fun zv yv wr => ∃ (p : Nat) (z y : Int), p ≤ n ∧ 0 ≤ z ∧ z ≤ 15 ∧ (y = 0 ∨ y = 1 ∨ y = -1) ∧ zv = .int .i64 z ∧ yv = .int .i64 y ∧ Hid (o = oneL (X.drop p) (decide (y = 1)) (decide (y = -1)) z) ∧ Hid (RB wr g s n p) ∧ Hid (Bar w wr (fun i => i = g))) (fun _ _ wr => fm wr)
  case atStart => exact ⟨a, z0, 0, ha, by omega, by omega, .inl rfl, rfl, rfl, HO, HR0, HBR0⟩
  case round =>
    clear HO HR0 HBR0
    obtain ⟨p, z, y, hp, hz0, hz1, hy, rfl, rfl, ho, hr, hb⟩ := hrel
    have HST := Lib.hid (HS0.out wr p hr.out hp)
    have hone := one_step X p (decide (y = 1)) (decide (y = -1)) z
    rw [← ho.out] at hone
    have hfm0 := HFM.out wr p hr.out
    rcases step_cases X p with ⟨h, e⟩ | ⟨h, hb2, e⟩ | ⟨h, hb2, h2, e⟩ | ⟨h, hb2, hd, e⟩ | ⟨h, hb2, hd, e⟩
    · rw [e] at HST hone
      have F : Hid (o = (0, [], 5)) := Lib.hid hone
      clear hone h e hr ho
      go_wp2_with fail
      refine HST.out.mono ?_
      rintro e w1 ⟨rfl, hr1, hb1⟩
      have HR1 := Lib.hid hr1; have HB1 := Lib.hid (hb.out.trans hb1)
      rw [show EV ((0 : Int), (5 : Int), p).2.1 = .iface 26 (.int .i64 5) from ev_some (E := 5) (by decide)]
      clear hr1 hb1
      go_wp2_with fail
      refine bodyPost_ret (v := .tuple #[.int .i64 0, .iface 26 (.int .i64 5)]) (by simp [results, Try.results78, go_sem]) rfl ?_
      exact lnp_mk (by rw [F.out]) (by rw [F.out]) rfl hp HR1.out (fun h => by rw [F.out] at h; cases h) HB1.out
    · rw [e] at HST hone
      have F : Hid (o = (z, X.drop (p + 1), 0)) := Lib.hid hone
      have hp1 : p + 1 ≤ n := by have := HXL.out; omega
      clear hone h e hr ho
      go_wp2_with fail
      refine HST.out.mono ?_
      rintro e w1 ⟨rfl, hr1, hb1⟩
      have HR1 := Lib.hid hr1; have HB1 := Lib.hid (hb.out.trans hb1)
      rw [ev_zero]
      clear hr1 hb1
      go_wp2_with fail
      refine bodyPost_ret (v := .tuple #[.int .i64 z, .nilIface]) (by simp [results, Try.results78, go_sem]) rfl ?_
      exact lnp_mk (by rw [F.out]) (by rw [F.out]) rfl hp1 HR1.out (fun h => by rw [F.out]) HB1.out
    · rw [e] at HST hone
      have F : Hid (o = (0, [], 5)) := Lib.hid hone
      have hp1 : p + 1 ≤ n := by have := HXL.out; omega
      clear hone h h2 e hr ho
      go_wp2_with fail
      refine HST.out.mono ?_
      rintro e w1 ⟨rfl, hr1, hb1⟩
      have HR1 := Lib.hid hr1; have HB1 := Lib.hid (hb.out.trans hb1)
      rw [show EV ((0 : Int), (5 : Int), p + 1).2.1 = .iface 26 (.int .i64 5) from ev_some (E := 5) (by decide)]
      clear hr1 hb1
      go_wp2_with fail
      refine bodyPost_ret (v := .tuple #[.int .i64 0, .iface 26 (.int .i64 5)]) (by simp [results, Try.results78, go_sem]) rfl ?_
      exact lnp_mk (by rw [F.out]) (by rw [F.out]) rfl hp1 HR1.out (fun h => by rw [F.out] at h; cases h) HB1.out
    · rw [e] at HST hone
      have hp2 : p + 2 ≤ n := by have := HXL.out; omega
      have HFA := Lib.hid (fun W (hw : RB W g s n (p + 2)) => HFM.out W (p + 2) hw)
      have HXR : Hid (fm wr = n - p) := Lib.hid hfm0
      have wz : IntKind.i64.wrap (z + 1) = z + 1 := IntWalk.i64_in _ (by omega)
      have wz2 : IntKind.i64.wrap (z + 1) = z + 1 := IntWalk.i64_in _ (by omega)
      clear hr ho hfm0 h hb2 hd e
      by_cases hbad : y = (-1) ∨ z + 1 < 0 ∨ 15 < z + 1
      · have F : Hid (o = (0, [], 7)) := Lib.hid (by
          rw [hone, if_neg (by simp), if_neg (by simp), if_pos]
          rcases hbad with h | h | h
          · right; right; subst h; rfl
          · exact .inl h
          · exact .inr (.inl h))
        clear hone
        by_cases hy2 : y = (-1)
        · subst hy2
          clear hbad hy
          go_wp2_with fail
          refine HST.out.mono ?_
          rintro e w1 ⟨rfl, hr1, hb1⟩
          have HR1 := Lib.hid hr1; have HB1 := Lib.hid (hb.out.trans hb1)
          rw [ev_zero]
          clear hr1 hb1
          go_wp2_with fail
          refine bodyPost_ret (v := .tuple #[.int .i64 0, .iface 26 (.int .i64 7)]) (by simp [results, Try.results78, go_sem]) rfl ?_
          exact lnp_mk (by rw [F.out]) (by rw [F.out]) rfl hp2 HR1.out (fun h => by rw [F.out] at h; cases h) HB1.out
        · have hzb : z + 1 < 0 ∨ 15 < z + 1 := by omega
          have hyy : y = 0 ∨ y = 1 := by omega
          clear hbad hy hy2
          by_cases hz2 : z + 1 < 0
          · have t1 : decide (z + 1 < 0) = true := decide_eq_true hz2
            clear hzb hz2
            rcases hyy with rfl | rfl
            all_goals
              go_wp2_with fail
              refine HST.out.mono ?_
              rintro e w1 ⟨rfl, hr1, hb1⟩
              have HR1 := Lib.hid hr1; have HB1 := Lib.hid (hb.out.trans hb1)
              rw [ev_zero]
              clear hr1 hb1
              go_wp2_with fail
              refine bodyPost_ret (v := .tuple #[.int .i64 0, .iface 26 (.int .i64 7)]) (by simp [results, Try.results78, go_sem]) rfl ?_
              exact lnp_mk (by rw [F.out]) (by rw [F.out]) rfl hp2 HR1.out (fun h => by rw [F.out] at h; cases h) HB1.out
          · have t1 : decide (z + 1 < 0) = false := decide_eq_false hz2
            have t2 : decide (15 < z + 1) = true := decide_eq_true (by omega)
            clear hzb hz2
            rcases hyy with rfl | rfl
            all_goals
              go_wp2_with fail
              refine HST.out.mono ?_
              rintro e w1 ⟨rfl, hr1, hb1⟩
              have HR1 := Lib.hid hr1; have HB1 := Lib.hid (hb.out.trans hb1)
              rw [ev_zero]
              clear hr1 hb1
              go_wp2_with fail
              refine bodyPost_ret (v := .tuple #[.int .i64 0, .iface 26 (.int .i64 7)]) (by simp [results, Try.results78, go_sem]) rfl ?_
              exact lnp_mk (by rw [F.out]) (by rw [F.out]) rfl hp2 HR1.out (fun h => by rw [F.out] at h; cases h) HB1.out
      · have hyy : y = 0 ∨ y = 1 := by omega
        have hza : 0 ≤ z + 1 := by omega
        have hzb : z + 1 ≤ 15 := by omega
        have F : Hid (o = oneL (X.drop (p + 2)) (decide ((1 : Int) = 1)) (decide ((1 : Int) = -1)) (z + 1)) := Lib.hid (by
          rw [hone, if_neg (by simp), if_neg (by simp), if_neg]
          · rcases hyy with rfl | rfl <;> rfl
          · rintro (h | h | h)
            · exact hbad (.inr (.inl h))
            · exact hbad (.inr (.inr h))
            · rcases hyy with rfl | rfl <;> simp at h)
        have t1 : decide (z + 1 < 0) = false := decide_eq_false (by omega)
        have t2 : decide (15 < z + 1) = false := decide_eq_false (by omega)
        clear hone hbad hy
        rcases hyy with rfl | rfl
        all_goals
          go_wp2_with fail
          refine HST.out.mono ?_
          rintro e w1 ⟨rfl, hr1, hb1⟩
          have HR1 := Lib.hid hr1; have HB1 := Lib.hid (hb.out.trans hb1)
          have HM1 : Hid (fm w1 = n - (p + 2)) := Lib.hid (HFA.out w1 hr1)
          rw [ev_zero]
          clear hr1 hb1
          go_wp2_with fail
          go_roundw
          case rel => exact ⟨p + 2, z + 1, 1, hp2, hza, hzb, by decide, by first | rfl | go_num, rfl, F, HR1, HB1⟩
          case measure => rw [HM1.out, HXR.out]; omega
    · rw [e] at HST hone
      have hp2 : p + 2 ≤ n := by have := HXL.out; omega
      have HFA := Lib.hid (fun W (hw : RB W g s n (p + 2)) => HFM.out W (p + 2) hw)
      have HXR : Hid (fm wr = n - p) := Lib.hid hfm0
      have wz : IntKind.i64.wrap (z + (-1)) = z + (-1) := IntWalk.i64_in _ (by omega)
      have wz2 : IntKind.i64.wrap (z - 1) = z + (-1) := IntWalk.i64_in _ (by omega)
      clear hr ho hfm0 h hb2 hd e
      by_cases hbad : y = 1 ∨ z + (-1) < 0 ∨ 15 < z + (-1)
      · have F : Hid (o = (0, [], 7)) := Lib.hid (by
          rw [hone, if_neg (by simp), if_neg (by simp), if_pos]
          rcases hbad with h | h | h
          · right; right; subst h; rfl
          · exact .inl h
          · exact .inr (.inl h))
        clear hone
        by_cases hy2 : y = 1
        · subst hy2
          clear hbad hy
          go_wp2_with fail
          refine HST.out.mono ?_
          rintro e w1 ⟨rfl, hr1, hb1⟩
          have HR1 := Lib.hid hr1; have HB1 := Lib.hid (hb.out.trans hb1)
          rw [ev_zero]
          clear hr1 hb1
          go_wp2_with fail
          refine bodyPost_ret (v := .tuple #[.int .i64 0, .iface 26 (.int .i64 7)]) (by simp [results, Try.results78, go_sem]) rfl ?_
          exact lnp_mk (by rw [F.out]) (by rw [F.out]) rfl hp2 HR1.out (fun h => by rw [F.out] at h; cases h) HB1.out
        · have hzb : z + (-1) < 0 ∨ 15 < z + (-1) := by omega
          have hyy : y = 0 ∨ y = -1 := by omega
          clear hbad hy hy2
          by_cases hz2 : z + (-1) < 0
          · have t1 : decide (z + (-1) < 0) = true := decide_eq_true hz2
            clear hzb hz2
            rcases hyy with rfl | rfl
            all_goals
              go_wp2_with fail
              refine HST.out.mono ?_
              rintro e w1 ⟨rfl, hr1, hb1⟩
              have HR1 := Lib.hid hr1; have HB1 := Lib.hid (hb.out.trans hb1)
              rw [ev_zero]
              clear hr1 hb1
              go_wp2_with fail
              refine bodyPost_ret (v := .tuple #[.int .i64 0, .iface 26 (.int .i64 7)]) (by simp [results, Try.results78, go_sem]) rfl ?_
              exact lnp_mk (by rw [F.out]) (by rw [F.out]) rfl hp2 HR1.out (fun h => by rw [F.out] at h; cases h) HB1.out
          · have t1 : decide (z + (-1) < 0) = false := decide_eq_false hz2
            have t2 : decide (15 < z + (-1)) = true := decide_eq_true (by omega)
            clear hzb hz2
            rcases hyy with rfl | rfl
            all_goals
              go_wp2_with fail
              refine HST.out.mono ?_
              rintro e w1 ⟨rfl, hr1, hb1⟩
              have HR1 := Lib.hid hr1; have HB1 := Lib.hid (hb.out.trans hb1)
              rw [ev_zero]
              clear hr1 hb1
              go_wp2_with fail
              refine bodyPost_ret (v := .tuple #[.int .i64 0, .iface 26 (.int .i64 7)]) (by simp [results, Try.results78, go_sem]) rfl ?_
              exact lnp_mk (by rw [F.out]) (by rw [F.out]) rfl hp2 HR1.out (fun h => by rw [F.out] at h; cases h) HB1.out
      · have hyy : y = 0 ∨ y = -1 := by omega
        have hza : 0 ≤ z + (-1) := by omega
        have hzb : z + (-1) ≤ 15 := by omega
        have F : Hid (o = oneL (X.drop (p + 2)) (decide (((-1) : Int) = 1)) (decide (((-1) : Int) = -1)) (z + (-1))) := Lib.hid (by
          rw [hone, if_neg (by simp), if_neg (by simp), if_neg]
          · rcases hyy with rfl | rfl <;> rfl
          · rintro (h | h | h)
            · exact hbad (.inr (.inl h))
            · exact hbad (.inr (.inr h))
            · rcases hyy with rfl | rfl <;> simp at h)
        have t1 : decide (z + (-1) < 0) = false := decide_eq_false (by omega)
        have t2 : decide (15 < z + (-1)) = false := decide_eq_false (by omega)
        clear hone hbad hy
        rcases hyy with rfl | rfl
        all_goals
          go_wp2_with fail
          refine HST.out.mono ?_
          rintro e w1 ⟨rfl, hr1, hb1⟩
          have HR1 := Lib.hid hr1; have HB1 := Lib.hid (hb.out.trans hb1)
          have HM1 : Hid (fm w1 = n - (p + 2)) := Lib.hid (HFA.out w1 hr1)
          rw [ev_zero]
          clear hr1 hb1
          go_wp2_with fail
          go_roundw
          case rel => exact ⟨p + 2, z + (-1), (-1), hp2, hza, hzb, by decide, by first | rfl | go_num, rfl, F, HR1, HB1⟩
          case measure => rw [HM1.out, HXR.out]; omega
end Go.Proofs.Ytjnehpkkkmicfaa.Tb2
namespace Go.Proofs.Ytjnehpkkkmicfaa.Tb2
open Go.RowKit Go.Lib Rw Ls Od _root_.Go.Proofs.Ytjnehpkkkmicfaa.Nm Pk Bt Cn Bk

/-- four bits, and so many lengths behind them -/
def allX (Y : List Bool) (k : Nat) : List Nat × List Bool × Int := if Y.length < 4 then ([], [], 5) else allL k true (Y.drop 4) (num (Y.take 4) : Nat) []
theorem allL_err : ∀ (n : Nat) (fi : Bool) (Y : List Bool) (z : Int) (out : List Nat), (allL n fi Y z out).2.2 = 0 ∨ (allL n fi Y z out).1 = []
  | 0, _, _, _, _ => .inl rfl
  | n + 1, fi, Y, z, out => by
    unfold allL
    split
    · exact .inr rfl
    · split
      · exact .inr rfl
      · exact allL_err n false _ _ _
theorem add_lit2 (g k : Nat) : ((⟨g, 0, none⟩ : Addr).add k) = ⟨g, k, none⟩ := by simp [Addr.add] <;> omega
theorem bar_below {w w3 w6 : World} {p : Nat → Prop} {B : Nat} (h : Bar w w3 p) (hb : Below B w3 w6) (hB : w.heap.size ≤ B) : Bar w w6 p :=
  ⟨hb.os.trans h.os, hb.tape.trans h.tape, hb.output.trans h.output, Nat.le_trans h.size hb.size, fun k hk hp => (hb.block k (by omega)).trans (h.block k hk hp)⟩
def LsP (w : World) (g : Nat) (s : ByteArray) (n : Nat) (X : List Bool) (m : Nat) (o : List Nat × List Bool × Int) (e : Ending) (w' : World) : Prop := ∃ (A : Option Addr) (c : Nat), e = .returned (.tuple #[.slice A m c, EV o.2.2]) ∧ m ≤ c ∧ Rd w' A (zs (up o.1)) ∧ ∃ a, a ≤ n ∧ RB w' g s n a ∧ (o.2.2 = 0 → X.drop a = o.2.1) ∧ Bar w w' (fun i => i = g)
theorem lsp_no {w w' : World} {g n a m : Nat} {s : ByteArray} {X : List Bool} {o : List Nat × List Bool × Int} {E : Int} {x : Value} (h : o = ([], [], E)) (hm : o.1.length = m) (hE : E ≠ 0) (hx : x = EV E) (ha : a ≤ n) (hr : RB w' g s n a) (hb : Bar w w' (fun i => i = g)) : LsP w g s n X m o (.returned (.tuple #[.slice none 0 0, x])) w' := by
  subst h; subst hx; subst hm
  exact ⟨none, 0, rfl, Nat.le_refl _, Rd.nil _ _, a, ha, hr, fun h => absurd h hE, hb⟩
set_option maxHeartbeats 8000000 in
set_option maxRecDepth 100000 in
theorem lengths_any (s : ByteArray) (n a k g : Nat) (w : World) (hb : RB w g s n a) (hs : s.size ≤ maxLen) (hc : chk s (n : Int) = 0) (ha : a ≤ n) (hk : k ≤ 512) :
    Calls Try.prog 61 #[.pointer (some ⟨g, 0, none⟩), .int .i64 (k : Int)] w (LsP w g s n (bl (Bt.bytes s) n) (allX ((bl (Bt.bytes s) n).drop a) k).1.length (allX ((bl (Bt.bytes s) n).drop a) k)) := by
  obtain ⟨i0, hi0, hz0, hz1, hz2⟩ := info_parts info_i
  have hxl : (bl (Bt.bytes s) n).length = n := bl_length _ _
  have hgs : g < w.heap.size := Blk.lt hb
  have HLN := Lib.hid (fun (W : World) p z (h : RB W g s n p) (hp : p ≤ n) (hz : z ≤ 15) => length_any s n p z g W h hs hc hp hz)
  obtain ⟨X, hX⟩ : ∃ X, X = bl (Bt.bytes s) n := ⟨_, rfl⟩
  rw [← hX] at hxl HLN ⊢
  obtain ⟨o, ho⟩ : ∃ o, o = allX (X.drop a) k := ⟨_, rfl⟩
  obtain ⟨m, hm⟩ : ∃ m, m = o.1.length := ⟨_, rfl⟩
  rw [← ho, ← hm]
  have HM := Lib.hid hm.symm
  have hdl : (X.drop a).length = n - a := by rw [List.length_drop, hxl]
  have HXL := Lib.hid hxl
  by_cases h4 : n < a + 4
  · have F : Hid (o = ([], [], 5)) := Lib.hid (by rw [ho]; unfold allX; rw [if_pos (by omega)])
    have H := Lib.hid (next_no s n a 4 g w hb hs hc (by omega) ha h4)
    clear hb hs hc hX ho hm hxl hdl h4
    go_enter Try.func61, Try.ntmps61
    go_wp2_with fail
    refine H.out.mono ?_
    rintro e w1 ⟨rfl, hr1, hb1⟩
    have HR1 := Lib.hid hr1; have HB1 := Lib.hid hb1
    clear hr1 hb1
    go_wp2_with fail
    refine bodyPost_ret (v := .tuple #[.slice none 0 0, .iface 26 (.int .i64 5)]) (by simp [results, Try.results61, go_sem]) rfl ?_
    exact lsp_no F.out HM.out (by decide) rfl ha HR1.out HB1.out
  have H := Lib.hid (next_ok s n a 4 g w hb hs hc (by omega) (by omega))
  rw [← hX] at H
  have hnum := num_four (X.drop a) (by omega)
  obtain ⟨z0, hz0e⟩ : ∃ z0, z0 = num ((X.drop a).take 4) := ⟨_, rfl⟩
  rw [← hz0e] at H hnum
  have HO : Hid (o = allL k true (X.drop (a + 4)) (z0 : Int) []) := Lib.hid (by rw [ho]; unfold allX; rw [if_neg (by omega), List.drop_drop, hz0e])
  have ha4 : a + 4 ≤ n := by omega
  have wz : IntKind.i64.wrap (z0 : Int) = (z0 : Int) := IntWalk.i64_in _ (by omega)
  clear hb hs hc hX ho hm hxl hdl h4 hz0e
  go_enter Try.func61, Try.ntmps61
  go_wp2_with fail
  refine H.out.mono ?_
  rintro e w1 ⟨rfl, hr1, hb1⟩
  have hw1 := hb1.size
  have own0 : (w1.alloc (.cells #[] 3)).ownsRow w1.heap.size 3 1 (.slice (some ⟨w1.heap.size, 0, none⟩) 0 0) 0 (zs (up [])) :=
    World.ownsRow_lit (e := 3) (base := w1.heap.size) (size := 1) w1 #[] 0 (by omega) (by decide) rfl
  have HO0 := Lib.hid own0
  have HR0 := Lib.hid (RB.below hr1 ((Below.refl _ w1).alloc (Nat.le_refl _) (.cells #[] 3)))
  have HB0 := Lib.hid (hb1.trans (Bar.of_below ((Below.refl _ w1).alloc (Nat.le_refl _) (.cells #[] 3)) (fun i => i = g)))
  have hg1 : g < w1.heap.size := by omega
  have hsz1 : w1.heap.size < (w1.alloc (.cells #[] 3)).heap.size := by simp
  clear hr1 hb1 own0
  go_wp2_with fail
  obtain ⟨B, hB⟩ : ∃ B, B = w1.heap.size := ⟨_, rfl⟩
  rw [← hB] at HO0 hg1 hsz1 hw1 ⊢
  generalize (w1.alloc (.cells #[] 3)) = w2 at HO0 HR0 HB0 hsz1 ⊢
  clear hB
  have HT0 : Hid (True ∧ ∀ x, ([] : List Nat).getD 0 x = x) := Lib.hid ⟨trivial, fun _ => rfl⟩
  go_loopw [8, 9, 22] (fun zv lv iv wr => ∃ (i p z gl cap : Nat) (out : List Nat), i ≤ k ∧ p ≤ n ∧ z ≤ 15 ∧ zv = .int .i64 z ∧ lv = .slice (some ⟨gl, 0, none⟩) i cap ∧ iv = .int .i64 i ∧ Hid (o = allL (k - i) (decide (i = 0)) (X.drop p) (z : Int) out ∧ out.length = i ∧ (i = 0 → z = z0) ∧ (0 < i → out.getD 0 0 = z0)) ∧ B < wr.heap.size ∧ Hid (wr.ownsRow B 3 1 (.slice (some ⟨gl, 0, none⟩) i cap) i (zs (up out))) ∧ Hid (RB wr g s n p) ∧ Hid (Bar w wr (fun i => i = g))) (fun _ _ iv _ => k - (RowKit.intOf iv).toNat)
  case atStart => exact ⟨0, a + 4, z0, B, 0, [], by omega, ha4, hnum, rfl, rfl, rfl, Lib.hid ⟨HO.out, rfl, fun _ => rfl, fun h => by omega⟩, hsz1, HO0, HR0, HB0⟩
  case round =>
    clear HO0 HR0 HB0 HO hsz1 HT0
    obtain ⟨i, p, z, gl, cap, out, hi, hp, hz, rfl, rfl, rfl, hoo, hsz, hl, hr, hb⟩ := hrel
    by_cases hlt : i < k
    · have k0 : (i : Int) < (k : Int) := by omega
      have HC := Lib.hid (HLN.out wr p z hr.out hp hz)
      obtain ⟨ho1, ho2, ho3, ho4⟩ := hoo.out
      have hal : o = if (oneL (X.drop p) false false z).2.2 ≠ 0 then ([], [], (oneL (X.drop p) false false z).2.2) else if decide (i = 0) = true ∧ (oneL (X.drop p) false false z).1 ≠ z then ([], [], 7) else allL (k - (i + 1)) false (oneL (X.drop p) false false z).2.1 (oneL (X.drop p) false false z).1 (out ++ [(oneL (X.drop p) false false z).1.toNat]) := by
        rw [ho1, show k - i = (k - (i + 1)) + 1 by omega]; rfl
      have hob : (oneL (X.drop p) false false z).2.2 = 0 → 0 ≤ (oneL (X.drop p) false false z).1 ∧ (oneL (X.drop p) false false z).1 ≤ 15 := fun h => by
        obtain ⟨q1, q2, _⟩ := one_back (Y := X.drop p) hz (l := (oneL (X.drop p) false false z).1) (R := (oneL (X.drop p) false false z).2.1) (Prod.ext rfl (Prod.ext rfl h))
        exact ⟨q1, q2⟩
      obtain ⟨r, hr2⟩ : ∃ r, r = oneL (X.drop p) false false z := ⟨_, rfl⟩
      rw [← hr2] at hal hob HC
      obtain ⟨rl, rr, re⟩ := r
      simp only at hal hob
      by_cases hre : re = 0
      case neg =>
        have F : Hid (o = ([], [], re)) := Lib.hid (by rw [hal, if_pos hre])
        have HRE := Lib.hid hre
        clear hal hob hr2 hoo ho1 ho2 ho3 ho4 hl hr
        go_wp2_with fail
        refine HC.out.mono ?_
        rintro e w3 ⟨rfl, p3, hp3, hr3, -, hb3⟩
        have HR3 := Lib.hid hr3; have HB3 := Lib.hid (hb.out.trans hb3)
        rw [show EV ((rl, rr, re) : Int × List Bool × Int).2.2 = .iface 26 (.int .i64 re) from ev_some hre]
        clear hr3 hb3 hre
        go_wp2_with fail
        refine bodyPost_ret (v := .tuple #[.slice none 0 0, .iface 26 (.int .i64 re)]) (by simp [results, Try.results61, go_sem]) rfl ?_
        exact lsp_no F.out HM.out HRE.out (ev_some HRE.out).symm hp3 HR3.out HB3.out
      subst hre
      have hq : 0 ≤ rl ∧ rl ≤ 15 := hob rfl
      obtain ⟨y, rfl⟩ : ∃ y : Nat, rl = (y : Int) := ⟨rl.toNat, by omega⟩
      have hy15 : y ≤ 15 := by omega
      clear hq
      have HY : Hid (if i = 0 ∧ y ≠ z then o = ([], [], 7) else o = allL (k - (i + 1)) false rr (y : Int) (out ++ [y])) := Lib.hid (by
        rw [if_neg (by simp)] at hal
        by_cases h : i = 0 ∧ y ≠ z
        · rw [if_pos h]; rw [if_pos ⟨by simp [h.1], by omega⟩] at hal; exact hal
        · rw [if_neg h]
          rw [if_neg (fun h2 => h ⟨by simpa using h2.1, by omega⟩)] at hal
          simpa using hal)
      have HOUT : Hid (out.length = i ∧ (i = 0 → z = z0) ∧ (0 < i → out.getD 0 0 = z0)) := Lib.hid ⟨ho2, ho3, ho4⟩
      clear hal hob hr2 hoo ho1 ho2 ho3 ho4
      go_wp2_with fail
      refine HC.out.mono ?_
      rintro e w3 ⟨rfl, p3, hp3, hr3, hd3, hb3⟩
      have hs3 := hb3.size
      have hgl := hl.out.lt gl rfl
      have hne : gl ≠ g := by omega
      have HO3 := Lib.hid (own_bar hl.out hb3 (fun r e h => hne (by rw [← h]; exact Option.some.inj e)))
      have HR3 := Lib.hid hr3; have HB3 := Lib.hid (hb.out.trans hb3)
      have HD3 : Hid (X.drop p3 = rr) := Lib.hid (hd3 rfl)
      rw [show EV ((((y : Int), rr, (0 : Int))) : Int × List Bool × Int).2.2 = .nilIface from rfl]
      have hB3 : B ≤ w3.heap.size := by omega
      have hik : i ≤ 512 := by omega
      clear hr3 hb3 hl hr hb hd3
      go_wp2_with (at_builtin; refine Rw.push rfl _ _ 22 rfl B 3 i0 (.int .i64 0) 1 8 Try.underlying22 hi0 hz0 hz1 hz2 rfl (by decide) _ _ _ rfl HO3.out [.int .i64 (y : Int)] rfl rfl rfl (by omega) (by omega) hB3 ?_)
      intro g6 cap6 w6 hown6 hgr6 hor6 hlt6 hb6
      have hup : zs (up out) ++ [.int .i64 (y : Int)] = zs (up (out ++ [y])) := by simp [zs, up]
      rw [hup] at hown6
      have hc0 := (Rd.of_own hown6).at (i := 0) (by simp [zs, up])
      have he0 : (zs (up (out ++ [y]))).getD 0 (.bool false) = .int .i64 ((if i = 0 then y else z0 : Nat) : Int) := by
        obtain ⟨h1, h2, h3⟩ := HOUT.out
        cases out with
        | nil =>
          have : i = 0 := by rw [← h1]; rfl
          rw [if_pos this]; simp [zs, up]
        | cons q out =>
          have : 0 < i := by rw [← h1]; simp
          rw [if_neg (by omega), ← h3 this]; simp [zs, up]
      rw [he0, add_lit2] at hc0
      have H1 := Lib.hid hown6
      have HB6 := Lib.hid (bar_below HB3.out hb6 hw1)
      have HR6 : Hid (RB w6 g s n p3) := Lib.hid (Blk.below HR3.out hb6 hg1)
      have hsz6 : B < w6.heap.size := by have := hb6.size; omega
      clear hown6 hgr6 hor6 hb6 HO3 he0 hup HR3 HB3
      by_cases hbad : i = 0 ∧ y ≠ z
      · have F : Hid (o = ([], [], 7)) := Lib.hid (by have h := HY.out; rw [if_pos hbad] at h; exact h)
        have hzz : z = z0 := HOUT.out.2.1 hbad.1
        rw [if_pos hbad.1] at hc0
        have e1 : ((y : Int) == (z0 : Int)) = false := by rw [beq_eq_false_iff_ne]; have := hbad.2; omega
        have e2 : ((y : Int) != (z0 : Int)) = true := by rw [bne_iff_ne]; have := hbad.2; omega
        have e3 : (y == z0) = false := by rw [beq_eq_false_iff_ne]; have := hbad.2; omega
        clear hbad hzz HY
        go_wp2_with fail
        refine bodyPost_ret (v := .tuple #[.slice none 0 0, .iface 26 (.int .i64 7)]) (by simp [results, Try.results61, go_sem]) rfl ?_
        exact lsp_no F.out HM.out (by decide) rfl hp3 HR6.out HB6.out
      · have F : Hid (o = allL (k - (i + 1)) (decide (i + 1 = 0)) (X.drop p3) (y : Int) (out ++ [y]) ∧ (out ++ [y]).length = i + 1 ∧ (i + 1 = 0 → y = z0) ∧ (0 < i + 1 → (out ++ [y]).getD 0 0 = z0)) := Lib.hid (by
          have h := HY.out
          rw [if_neg hbad] at h
          obtain ⟨h1, h2, h3⟩ := HOUT.out
          refine ⟨by rw [h, HD3.out]; rfl, by simp [h1], fun h => by omega, fun _ => ?_⟩
          cases out with
          | nil =>
            have hi0 : i = 0 := by rw [← h1]; rfl
            have : y = z := Decidable.byContradiction fun hh => hbad ⟨hi0, hh⟩
            rw [this]; exact h2 hi0
          | cons q out =>
            exact h3 (by rw [← h1]; simp))
        have hv : (if i = 0 then y else z0) = z0 := by
          by_cases h : i = 0
          · rw [if_pos h]
            have h1 : y = z := Decidable.byContradiction fun hh => hbad ⟨h, hh⟩
            rw [h1]; exact HOUT.out.2.1 h
          · rw [if_neg h]
        rw [hv] at hc0
        have e1 : ((z0 : Int) == (z0 : Int)) = true := by simp
        have e2 : ((z0 : Int) != (z0 : Int)) = false := by simp
        clear hbad HY hv
        go_wp2_with fail
        go_roundw
        case rel => exact ⟨i + 1, p3, y, g6, cap6, out ++ [y], by omega, hp3, hy15, rfl, rfl, by go_num, F, hsz6, H1, HR6, HB6⟩
        case measure => simp [RowKit.intOf]; omega
    · obtain rfl : i = k := by omega
      have k0 : ¬ (i : Int) < (i : Int) := by omega
      have F : Hid (o = (out, X.drop p, 0)) := Lib.hid (by have h := hoo.out.1; rw [Nat.sub_self] at h; exact h)
      have HRD := Lib.hid (Rd.of_own hl.out)
      have hcap : i ≤ cap := by
        rcases hl.out.2 with ⟨h, _⟩ | ⟨g', c', cur, e, _, _, h1, _⟩
        · cases h
        · cases e; exact h1
      have hmi : m = i := by rw [← HM.out, F.out]; exact hoo.out.2.1
      clear hl hoo
      go_wp2_with fail
      refine bodyPost_ret (v := .tuple #[.slice (some ⟨gl, 0, none⟩) i cap, .nilIface]) (by simp [results, Try.results61, go_sem]) rfl ?_
      first | rw [hmi, F.out] | rw [F.out]
      exact ⟨_, cap, rfl, hcap, HRD.out, p, hp, hr.out, fun _ => rfl, hb.out⟩
end Go.Proofs.Ytjnehpkkkmicfaa.Tb2
namespace Go.Proofs.Ytjnehpkkkmicfaa.Tb2
open Go.RowKit Go.Lib Rw Ls Od _root_.Go.Proofs.Ytjnehpkkkmicfaa.Nm Pk Bt Cn Bk

theorem oneL_err : ∀ (Y : List Bool) (u w : Bool) (z : Int), (oneL Y u w z).2.2 = 0 ∨ (oneL Y u w z).2.2 = 5 ∨ (oneL Y u w z).2.2 = 7
  | [], _, _, _ => .inr (.inl rfl)
  | false :: r, _, _, z => .inl rfl
  | [true], _, _, _ => .inr (.inl rfl)
  | true :: d :: r, u, w, z => by
    have h := oneL_err r (u || !d) (w || d) (if d then z - 1 else z + 1)
    have e : oneL (true :: d :: r) u w z = if (if d then z - 1 else z + 1) < 0 ∨ 15 < (if d then z - 1 else z + 1) ∨ ((u || !d) && (w || d)) = true then (0, [], 7) else oneL r (u || !d) (w || d) (if d then z - 1 else z + 1) := by rw [oneL]
    rw [e]
    by_cases hc : (if d then z - 1 else z + 1) < 0 ∨ 15 < (if d then z - 1 else z + 1) ∨ ((u || !d) && (w || d)) = true
    · rw [if_pos hc]; exact .inr (.inr rfl)
    · rw [if_neg hc]; exact h
theorem allL_num : ∀ (n : Nat) (fi : Bool) (Y : List Bool) (z : Int) (out : List Nat), (allL n fi Y z out).2.2 = 0 ∨ (allL n fi Y z out).2.2 = 5 ∨ (allL n fi Y z out).2.2 = 7
  | 0, _, _, _, _ => .inl rfl
  | n + 1, fi, Y, z, out => by
    unfold allL
    split
    · exact oneL_err _ _ _ _
    · split
      · exact .inr (.inr rfl)
      · exact allL_num n false _ _ _
theorem allX_num (Y : List Bool) (k : Nat) : (allX Y k).2.2 = 0 ∨ (allX Y k).2.2 = 5 ∨ (allX Y k).2.2 = 7 := by
  unfold allX
  split
  · exact .inr (.inl rfl)
  · exact allL_num _ _ _ _ _
theorem readL_allX (Y : List Bool) (k : Nat) : readL Y k = if (allX Y k).2.2 ≠ 0 then ([], [], (allX Y k).2.2) else if okC (up (allX Y k).1) then allX Y k else ([], [], 7) := by
  unfold readL allX
  by_cases h : Y.length < 4
  · rw [if_pos h, if_pos h, if_pos (by decide)]
  · rw [if_neg h, if_neg h]
theorem allL_len : ∀ (n : Nat) (fi : Bool) (Y : List Bool) (z : Int) (out : List Nat), (allL n fi Y z out).1.length ≤ out.length + n
  | 0, _, _, _, _ => Nat.le_refl _
  | n + 1, fi, Y, z, out => by
    unfold allL
    split
    · simp
    · split
      · simp
      · refine Nat.le_trans (allL_len n false _ _ _) ?_
        simp; omega
theorem allX_len (Y : List Bool) (k : Nat) : (allX Y k).1.length ≤ k := by
  unfold allX
  split
  · simp
  · have := allL_len k true (Y.drop 4) (num (Y.take 4) : Nat) []
    simpa using this
theorem rlp_no {w w' : World} {o : List Nat × Int × Int} {E : Int} (h : o = ([], 0, E)) (hb : Below w.heap.size w w') : RlP w o (.returned (.tuple #[.slice none 0 0, .int .i64 0, .int .i64 E])) w' := by
  subst h; exact ⟨none, 0, rfl, Nat.le_refl _, Rd.nil _ _, hb⟩
set_option maxHeartbeats 8000000 in
set_option maxRecDepth 100000 in
theorem pread22_any (s : ByteArray) (n z k : Int) (w : World) (hs : s.size ≤ maxLen) :
    Calls Try.prog 27 #[.agg #[.string s, .int .i64 n], .int .i64 z, .int .i64 k] w (RlP w (trR s n z k)) := by
  have HC := Lib.hid (fun W => check_any s n W hs)
  have HBX : Hid (Below w.heap.size w (w.alloc (.cells #[.string s, .int .i64 n] 35))) := Lib.hid ((Below.refl _ _).alloc (Nat.le_refl _) _)
  have HNB : Hid (Box (w.alloc (.cells #[.string s, .int .i64 n] 35)) w.heap.size s n) := Lib.hid (Box.new w s n)
  rcases chk_cases s n with hc | hc
  case inr =>
    have F : Hid (trR s n z k = ([], 0, 2)) := Lib.hid (by unfold trR; rw [if_neg (by omega)])
    rw [hc] at HC
    clear hc
    go_enter Try.func27, Try.ntmps27
    go_wp2_with fail
    refine (HC.out _).mono ?_
    rintro e w1 ⟨rfl, b1⟩
    have B1 := Lib.hid (HBX.out.trans (b1.mono HBX.out.size))
    clear b1
    go_wp2_with fail
    refine bodyPost_ret (v := .tuple #[.slice none 0 0, .int .i64 0, .int .i64 2]) (by simp [results, Try.results27, go_sem]) rfl ?_
    exact rlp_no F.out B1.out
  have HC0 := Lib.hid hc
  have hR := chk_zero hc
  rw [hc] at HC
  clear hc
  obtain ⟨N, rfl⟩ : ∃ N : Nat, n = (N : Int) := ⟨n.toNat, by have := hR.1; omega⟩
  have hN : N ≤ 1048576 := by have := hR.2.1; omega
  by_cases hz : z < 0 ∨ (N : Int) < z ∨ k < 1 ∨ 512 < k
  · have F : Hid (trR s N z k = ([], 0, 1)) := Lib.hid (by unfold trR; rw [if_pos HC0.out, if_pos hz])
    clear hR
    have cases4 : (decide (z < 0) = true) ∨ (decide (z < 0) = false ∧ decide ((N : Int) < z) = true) ∨ (decide (z < 0) = false ∧ decide ((N : Int) < z) = false ∧ decide (k < 1) = true) ∨ (decide (z < 0) = false ∧ decide ((N : Int) < z) = false ∧ decide (k < 1) = false ∧ decide (512 < k) = true) := by
      by_cases h1 : z < 0
      · exact .inl (decide_eq_true h1)
      · by_cases h2 : (N : Int) < z
        · exact .inr (.inl ⟨decide_eq_false h1, decide_eq_true h2⟩)
        · by_cases h3 : k < 1
          · exact .inr (.inr (.inl ⟨decide_eq_false h1, decide_eq_false h2, decide_eq_true h3⟩))
          · exact .inr (.inr (.inr ⟨decide_eq_false h1, decide_eq_false h2, decide_eq_false h3, decide_eq_true (by omega)⟩))
    clear hz
    rcases cases4 with f1 | ⟨f1, f2⟩ | ⟨f1, f2, f3⟩ | ⟨f1, f2, f3, f4⟩
    all_goals
      go_enter Try.func27, Try.ntmps27
      go_wp2_with fail
      refine (HC.out _).mono ?_
      rintro e w1 ⟨rfl, b1⟩
      have B1 := Lib.hid (HBX.out.trans (b1.mono HBX.out.size))
      have x1 := (HNB.out.below b1).c1
      clear b1
      go_wp2_with fail
      refine bodyPost_ret (v := .tuple #[.slice none 0 0, .int .i64 0, .int .i64 1]) (by simp [results, Try.results27, go_sem]) rfl ?_
      exact rlp_no F.out B1.out
  obtain ⟨Z, rfl⟩ : ∃ Z : Nat, z = (Z : Int) := ⟨z.toNat, by omega⟩
  obtain ⟨K, rfl⟩ : ∃ K : Nat, k = (K : Int) := ⟨k.toNat, by omega⟩
  have hZ : Z ≤ N := by omega
  have hK : K ≤ 512 := by omega
  have f1 : decide ((Z : Int) < 0) = false := decide_eq_false (by omega)
  have f2 : decide ((N : Int) < (Z : Int)) = false := decide_eq_false (by omega)
  have f3 : decide ((K : Int) < 1) = false := decide_eq_false (by omega)
  have f4 : decide (512 < (K : Int)) = false := decide_eq_false (by omega)
  have f5 : decide (N < Z) = false := decide_eq_false (by omega)
  have f6 : decide (512 < K) = false := decide_eq_false (by omega)
  have f7 : decide (K < 1) = false := decide_eq_false (by omega)
  have f8 : decide (K = 0) = false := decide_eq_false (by omega)
  have f9 : (K == 0) = false := by rw [beq_eq_false_iff_ne]; omega
  have hxl : (bl (Bt.bytes s) N).length = N := bl_length _ _
  obtain ⟨o, ho⟩ : ∃ o, o = allX ((bl (Bt.bytes s) N).drop Z) K := ⟨_, rfl⟩
  have hnum := allX_num ((bl (Bt.bytes s) N).drop Z) K
  have HT : Hid (trR s N Z K = if o.2.2 ≠ 0 then ([], 0, o.2.2) else if okC (up o.1) then (o.1, (N : Int) - o.2.1.length, 0) else ([], 0, 7)) := Lib.hid (by
    unfold trR
    rw [if_pos HC0.out, if_neg hz]
    simp only [Int.toNat_natCast]
    rw [readL_allX, ← ho]
    by_cases h1 : o.2.2 ≠ 0
    · rw [if_pos h1, if_pos h1, if_neg h1]
    · rw [if_neg h1, if_neg h1]
      by_cases h2 : okC (up o.1)
      · rw [if_pos h2, if_pos h2, if_pos (Decidable.not_not.1 h1)]
      · rw [if_neg h2, if_neg h2]; rfl)
  have HLs : Hid (∀ W g, RB W g s N Z → Calls Try.prog 61 #[.pointer (some ⟨g, 0, none⟩), .int .i64 (K : Int)] W (LsP W g s N (bl (Bt.bytes s) N) o.1.length o)) := Lib.hid (fun W g h => by
    have h2 := lengths_any s N Z K g W h hs HC0.out hZ hK
    rw [← ho] at h2; exact h2)
  have hlen := allX_len ((bl (Bt.bytes s) N).drop Z) K
  rw [← ho] at hnum hlen
  obtain ⟨m, hm⟩ : ∃ m, m = o.1.length := ⟨_, rfl⟩
  have HM := Lib.hid hm
  rw [← hm] at HLs hlen
  have HCk : Hid (∀ W A c, Rd W A (zs (up o.1)) → m ≤ 512 → Calls Try.prog 17 #[.slice A m c] W fun e w' => e = .returned (.int .i64 (chkC (up o.1))) ∧ Below W.heap.size W w') := Lib.hid (fun W A c h hm2 => by
    have h2 := pcheckc_any (up o.1) A c W h (by rw [up_length, ← hm]; omega)
    rw [up_length, ← hm] at h2; exact h2)
  have HXL := Lib.hid hxl
  clear hz hR hs hxl ho hm
  go_enter Try.func27, Try.ntmps27
  go_wp2_with fail
  refine (HC.out _).mono ?_
  rintro e w1 ⟨rfl, b1⟩
  have B1 := Lib.hid (HBX.out.trans (b1.mono HBX.out.size))
  have X1 := HNB.out.below b1
  have x0 := X1.c0; have x1 := X1.c1
  have HRB : Hid (RB (w1.alloc (.cells #[.string s, .int .i64 (N : Int), .int .i64 (Z : Int)] 93)) w1.heap.size s N Z) := Lib.hid (Blk.new w1 _ _)
  have B2 := Lib.hid (B1.out.alloc B1.out.size (.cells #[.string s, .int .i64 (N : Int), .int .i64 (Z : Int)] 93))
  have hsz : w.heap.size ≤ w1.heap.size := B1.out.size
  clear b1 X1
  go_wp2_with fail
  refine (HLs.out _ _ HRB.out).mono ?_
  rintro e w3 ⟨A, c, rfl, hmc, hrd, p, hp, hrb, hdr, hbar⟩
  have B3 := Lib.hid (B2.out.trans (hbar.below (B := w.heap.size) (fun i _ hi => by omega) B2.out.size))
  have HRD := Lib.hid hrd; have HRB3 := Lib.hid hrb; have HDR := Lib.hid hdr
  clear hbar hrd hrb hdr HRB B2 B1 x0 x1
  rcases hnum with h0 | h5 | h7
  · rw [h0, ev_zero]
    have HD := Lib.hid (HDR.out h0)
    by_cases hok : okC (up o.1)
    · have F : Hid (trR s N Z K = (o.1, (p : Int), 0)) := Lib.hid (by
        rw [HT.out, if_neg (by rw [h0]; decide), if_pos hok]
        have h1 := congrArg List.length HD.out
        rw [List.length_drop, HXL.out] at h1
        have h2 : (N : Int) - (o.2.1.length : Int) = (p : Int) := by omega
        rw [h2])
      have HCC : Hid (chkC (up o.1) = 0) := Lib.hid (by unfold chkC; rw [if_pos hok])
      clear h0 hok HT HDR HD
      go_wp2_with fail
      refine (Er.is_nil _ _).mono ?_
      rintro e w4 ⟨rfl, hw⟩
      rw [hw]
      clear hw
      go_wp2_with fail
      refine (HCk.out _ _ _ HRD.out (by omega)).mono ?_
      rintro e w5 ⟨rfl, hb5⟩
      rw [HCC.out]
      have B5 := Lib.hid (B3.out.trans (hb5.mono B3.out.size))
      have HRD5 := Lib.hid (HRD.out.below hb5)
      have c2 := Blk.cell (RB.below HRB3.out hb5) (k := 2) rfl
      clear hb5 B3 HRD HRB3
      go_wp2_with fail
      go_region
      all_goals go_wp2_with fail
      all_goals refine bodyPost_ret (v := .tuple #[.slice A m c, .int .i64 (p : Int), .int .i64 0]) (by simp [results, Try.results27, go_sem]) rfl ?_
      all_goals (
        rw [F.out]
        refine ⟨A, c, by rw [HM.out], by rw [← HM.out]; exact hmc, ?_, ?_⟩
        · first | exact HRD5.out | exact HRD5.out.drewN 1
        · first | exact B5.out | exact Below.drew B5.out)
    · have F : Hid (trR s N Z K = ([], 0, 7)) := Lib.hid (by rw [HT.out, if_neg (by rw [h0]; decide), if_neg hok])
      have HCC : Hid (chkC (up o.1) = 7) := Lib.hid (by unfold chkC; rw [if_neg hok])
      clear h0 hok HT HDR HD
      go_wp2_with fail
      refine (Er.is_nil _ _).mono ?_
      rintro e w4 ⟨rfl, hw⟩
      rw [hw]
      clear hw
      go_wp2_with fail
      refine (HCk.out _ _ _ HRD.out (by omega)).mono ?_
      rintro e w5 ⟨rfl, hb5⟩
      rw [HCC.out]
      have B5 := Lib.hid (B3.out.trans (hb5.mono B3.out.size))
      clear hb5 B3 HRD HRB3
      go_wp2_with fail
      refine bodyPost_ret (v := .tuple #[.slice none 0 0, .int .i64 0, .int .i64 7]) (by simp [results, Try.results27, go_sem]) rfl ?_
      exact rlp_no F.out B5.out
  · have F : Hid (trR s N Z K = ([], 0, 5)) := Lib.hid (by rw [HT.out, if_pos (by rw [h5]; decide), h5])
    rw [h5, ev_some (E := 5) (by decide)]
    clear h5 HT HDR
    go_wp2_with fail
    refine (Er.is_num 5 5 _).mono ?_
    rintro e w4 ⟨rfl, hw⟩
    rw [hw, show ((5 : Int) == 5) = true from rfl]
    clear hw
    go_wp2_with fail
    refine bodyPost_ret (v := .tuple #[.slice none 0 0, .int .i64 0, .int .i64 5]) (by simp [results, Try.results27, go_sem]) rfl ?_
    exact rlp_no F.out B3.out
  · have F : Hid (trR s N Z K = ([], 0, 7)) := Lib.hid (by rw [HT.out, if_pos (by rw [h7]; decide), h7])
    rw [h7, ev_some (E := 7) (by decide)]
    clear h7 HT HDR
    go_wp2_with fail
    refine (Er.is_num 7 5 _).mono ?_
    rintro e w4 ⟨rfl, hw⟩
    rw [hw, show ((7 : Int) == 5) = false from rfl]
    clear hw
    go_wp2_with fail
    refine bodyPost_ret (v := .tuple #[.slice none 0 0, .int .i64 0, .int .i64 7]) (by simp [results, Try.results27, go_sem]) rfl ?_
    exact rlp_no F.out B3.out
end Go.Proofs.Ytjnehpkkkmicfaa.Tb2
namespace Go.Proofs.Ytjnehpkkkmicfaa.Tb2
open Go.RowKit Go.Lib Rw Ls Od _root_.Go.Proofs.Ytjnehpkkkmicfaa.Nm Pk Bt Cn

theorem tblC : TblC := ⟨fun s n ls p c w hs hp hl => pwrite22_any s n ls p c w hs hp hl, fun s n z k w hs _ _ => pread22_any s n z k w hs, fun ls p c w hp hl => psize_any ls p c w hp hl⟩
end Go.Proofs.Ytjnehpkkkmicfaa.Tb2
