/- PsG PsH PsI PsJ PkProg -/
import Derived.Test.YtjnehpkkkmicfaaRows
import Derived.RangeFuncNested
import Derived.RangeFuncBound
import Derived.RangeFuncCalls
import Derived.RangeFuncLeaves
import Derived.RangeFuncBox
import Derived.RangeFuncWrites
import Derived.Lib.Hide
import Derived.Test.YtjnehpkkkmicfaaBnE
import Derived.OwnWalkIn
import Derived.TacticsInMore
import Derived.LoopNIn
import Derived.LoopIn
import Derived.Shelf.RegionOpen
namespace Go.Proofs.Ytjnehpkkkmicfaa.Ps
open Go.RowKit Go

/-- the function tells xs, whatever the loop does between two of them, if it can read what it reads -/
def Tells {α : Type} (F : Fence) (m : Nat) (P : Program) (gf : Nat) (lb : Array Value) (encs : α → Array Value) (xs : List α) (Rds : World → Prop) : Prop :=
  ∀ (l : Nat) (J : List α → World → Prop) (W : World), (∀ pre W1, J pre W1 → Rds W1) →
    (∀ pre x rest W1, xs = pre ++ x :: rest → J pre W1 → YieldAt F (m - 1) P l (encs x) W1 fun e W' => e = .returned (.bool true) ∧ J (pre ++ [x]) W') →
    J [] W → CallsIn F m P gf (#[.func (.yield l) #[] #[]] ++ lb) W fun e W' => (∃ v, e = .returned v) ∧ J xs W'
/-- how a round of the body ends -/
def Ends {α : Type} (B : Nat) (I : List α → World → Prop) (xs : List α) (W : World) (e : Exit) (_ : Act) (W' : World) : Prop := e = .normal ∧ KeepsFrom B W W' ∧ I xs W'
set_option maxHeartbeats 2000000 in
theorem range_told {F : Fence} {P : Program} {n : Nat} {α : Type} {g : Operand} {ps : Array Tmp} {assign body : Code} {Q : Exit → Act → World → Prop} {a : Act} {w : World}
    (hro : F.round = none) (h1 : 1 ≤ n) {gf : Nat} {lb : Array Value} (hg : a.eval g = .func (.func gf) #[] lb) (hFg : F.fn gf) (eg : ∀ args w, (callFunc gf args).run P w = .ok (.enter gf args) w)
    {encs : α → Array Value} {xs : List α} {Rds : World → Prop} (ht : Tells F (n - 1) P gf lb encs xs Rds) (hps : ∀ x, (encs x).size = ps.size)
    (I : List α → World → Prop) (hI : OwnFrom w.heap.size I) (hR : ∀ pre W, I pre W → Rds W) (h0 : I [] w) (a₁ : α → Act)
    (hassign : ∀ (l : Nat) (x : α) (W : World) (K : Act → World → Prop), K (a₁ x) W →
      assign.wpIn (F.inRound l) (n - 1 - 1) P (Exit.then K (fun _ _ _ => False)) { tmps := (ps.zip (encs x)).foldl (fun t (p, v) => t.setIfInBounds p v) a.tmps, defers := [] } W)
    (hbody : ∀ (l : Nat) (pre : List α) (x : α) (rest : List α) (W : World), xs = pre ++ x :: rest → I pre W → body.wpIn (F.inRound l) (n - 1 - 1) P (Ends w.heap.size I (pre ++ [x]) W) (a₁ x) W)
    (hdone : ∀ (D : Nat) (W : World), w.heap.size ≤ D → I xs W → W.heap[D]? = some (.deferred (some [])) → Q .normal { a with defers := { target := .collected D, args := #[] } :: a.defers } W) :
    (Code.rangeFunc g ps assign body).wpIn F n P Q a w := by
  refine wpIn_rangeFunc fun fn hfn => ?_
  rw [hro]
  obtain ⟨D, hD⟩ : ∃ D, D = w.heap.size := ⟨_, rfl⟩
  obtain ⟨r, hr⟩ : ∃ r : LoopState → Loop, r = fun st => { state := st, pending := none, fn, tmps := a.tmps, params := ps, assign, body, defers := w.heap.size } := ⟨_, rfl⟩
  have hrun := run_enterLoop_outer (P := P) (w := w) fn a.tmps ps assign body
  rw [show ({ state := .ready, pending := none, fn, tmps := a.tmps, params := ps, assign, body, defers := w.heap.size } : Loop) = r .ready from by rw [hr]] at hrun
  obtain ⟨w2, hw2⟩ : ∃ w2, (w.alloc (.deferred (some []))).alloc (.loop (r .ready)) = w2 := ⟨_, rfl⟩
  have hLl : w2.heap[D + 1]? = some (.loop (r .ready)) := by
    rw [← hw2]
    have := World.alloc_heap_new (w.alloc (.deferred (some []))) (.loop (r .ready))
    rwa [World.size_alloc, ← hD] at this
  have hDl : w2.heap[D]? = some (.deferred (some [])) := by
    rw [← hw2, hD]
    exact (Below.heap_alloc _ _ _ (by simp)).trans (World.alloc_heap_new w _)
  have hI2 : I [] w2 := by rw [← hw2]; exact hI.alloc _ (hI.alloc _ h0)
  rw [hw2, ← hD] at hrun
  have hy : ∀ (x : α) (W : World), W.heap[D + 1]? = some (.loop (r .ready)) → (Instr.yield (D + 1) (encs x)).run P W = .ok (.round (D + 1) fn ((ps.zip (encs x)).foldl (fun t (p, v) => t.setIfInBounds p v) a.tmps) assign body) W := fun x W h => by
    have := run_yield (P := P) (args := encs x) h (by rw [hr]; exact hps x)
    rw [hr] at this
    exact this
  have hbg : ∀ W : World, W.heap[D + 1]? = some (.loop (r .ready)) → (Instr.beginRound (D + 1)).run P W = .ok () (W.putObj (D + 1) (.loop (r .busy))) := fun W h => by
    have := run_beginRound (P := P) h (by rw [hr])
    rw [hr] at this ⊢
    exact this
  have hen : ∀ W : World, W.heap[D + 1]? = some (.loop (r .busy)) → (Instr.endRound (D + 1) none).run P W = .ok (.bool true) (W.putObj (D + 1) (.loop (r .ready))) := fun W h => by
    have := run_endRound (P := P) none h
    rw [hr] at this ⊢
    exact this
  have hel : ∀ W : World, W.heap[D + 1]? = some (.loop (r .ready)) → (Instr.endLoop (D + 1)).run P W = .ok none (W.putObj (D + 1) (.loop (r .exhausted))) := fun W h => by
    have := run_endLoop (P := P) h (by rw [hr]; simp)
    rw [hr] at this ⊢
    exact this
  rw [← hD] at hI hbody hdone
  clear hr hw2 h0
  have hne : D ≠ D + 1 := Nat.ne_of_lt (Nat.lt_succ_self D)
  have hle : D ≤ D + 1 := Nat.le_succ D
  have one : ∀ pre x rest W, xs = pre ++ x :: rest → (I pre W ∧ W.heap[D + 1]? = some (.loop (r .ready)) ∧ W.heap[D]? = some (.deferred (some []))) →
      YieldAt F (n - 1 - 1) P (D + 1) (encs x) W fun e W' => e = .returned (.bool true) ∧ (I (pre ++ [x]) W' ∧ W'.heap[D + 1]? = some (.loop (r .ready)) ∧ W'.heap[D]? = some (.deferred (some []))) := by
    rintro pre x rest W hx ⟨hi, hl, hd⟩
    have hlt : D + 1 < W.heap.size := (Array.getElem?_eq_some_iff.1 hl).1
    refine ⟨fn, _, assign, body, hy x W hl, roundIn_of_wpIn hfn (hassign _ x W _ ⟨_, hbg W hl, ?_⟩)⟩
    have hl2 : (W.putObj (D + 1) (.loop (r .busy))).heap[D + 1]? = some (.loop (r .busy)) := World.putObj_heap_same hlt
    have hd2 : (W.putObj (D + 1) (.loop (r .busy))).heap[D]? = some (.deferred (some [])) := (World.putObj_heap_other hne).trans hd
    refine wpIn_mono (hbody (D + 1) pre x rest _ hx (hI.putObj _ hi hle hl rfl)) ?_
    rintro e a3 W3 ⟨rfl, hk, hi3⟩
    have hl3 := hk.same (D + 1) _ hle hl2 rfl
    have hd3 := hk.same D _ (Nat.le_refl _) hd2 rfl
    exact ⟨_, _, hen W3 hl3, rfl, hI.putObj _ hi3 hle hl3 rfl, World.putObj_heap_same (Array.getElem?_eq_some_iff.1 hl3).1, (World.putObj_heap_other hne).trans hd3⟩
  have hc := ht (D + 1) (fun pre W => I pre W ∧ W.heap[D + 1]? = some (.loop (r .ready)) ∧ W.heap[D]? = some (.deferred (some []))) w2 (fun pre W h => hR pre W h.1) one ⟨hI2, hLl, hDl⟩
  refine ⟨D + 1, [{ target := .collected D, args := #[] }], w2, { target := .fn (.func gf) lb, args := #[.func (.yield (D + 1)) #[] #[]] }, w2, gf, #[.func (.yield (D + 1)) #[] #[]] ++ lb, w2, ?_, ?_, ?_, ?_, fun _ => h1, ?_⟩
  · exact hrun
  · simp only [resolve, hg]
    simp [go_sem]
  · intro f' hf'; simp [Target.leads] at hf'; subst hf'; exact hFg
  · simp [invoke, go_sem, eg]
  · refine hc.mono ?_
    rintro e W ⟨⟨v, rfl⟩, hi, hl, hd⟩
    exact ⟨none, _, hel W hl, hdone D _ (Nat.le_refl _) (hI.putObj _ hi hle hl rfl) ((World.putObj_heap_other hne).trans hd)⟩
end Go.Proofs.Ytjnehpkkkmicfaa.Ps
namespace Go.Proofs.Ytjnehpkkkmicfaa.Ps
open Go.RowKit Go.Lib Rw Ls Od Pk St _root_.Go.Proofs.Ytjnehpkkkmicfaa.Nm
attribute [local go_sem] Oper.semAt_some
theorem wide_fn' (f : FuncId) : Fence.wide.fn f = True := rfl
attribute [local go_sem] wide_fn'

/-- numbers from n down to 0, n left out -/
def downs (n : Nat) : List Nat := (List.range n).reverse
theorem downs_succ (n : Nat) : downs (n + 1) = n :: downs n := by simp [downs, List.range_succ]
theorem downs_split : ∀ (n k : Nat), k ≤ n → downs n = (downs n).take (n - k) ++ downs k
  | n, k, h => by
    induction n with
    | zero => obtain rfl : k = 0 := by omega
              rfl
    | succ n ih =>
      by_cases e : k = n + 1
      · subst e; simp
      · rw [downs_succ, show n + 1 - k = (n - k) + 1 by omega, List.take_succ_cons, List.cons_append, ← ih (by omega)]
theorem downs_length (n : Nat) : (downs n).length = n := by simp [downs]
theorem downs_take {n k : Nat} (h : k < n) : (downs n).take (n - (k + 1)) ++ [k] = (downs n).take (n - k) := by
  have h1 := downs_split n (k + 1) (by omega)
  have h2 := downs_split n k (by omega)
  rw [downs_succ] at h1
  have e : (downs n).take (n - k) ++ downs k = ((downs n).take (n - (k + 1)) ++ [k]) ++ downs k := by rw [← h2, List.append_assoc]; exact h1
  exact (List.append_cancel_right e).symm
/-- where a list is parted tells what is at the place -/
theorem downs_at {n : Nat} {pre rest : List Nat} {x : Nat} (h : downs n = pre ++ x :: rest) : x < n ∧ pre.length = n - 1 - x ∧ pre = (downs n).take (n - (x + 1)) := by
  have hl : pre.length < n := by
    have := congrArg List.length h
    rw [downs_length, List.length_append, List.length_cons] at this; omega
  have hx : (downs n)[pre.length]? = some x := by rw [h]; simp
  have hx2 : (downs n)[pre.length]? = some (n - 1 - pre.length) := by
    unfold downs
    rw [List.getElem?_reverse (by simpa using hl), List.length_range, List.getElem?_range (by omega)]
  rw [hx] at hx2
  have e : x = n - 1 - pre.length := by injection hx2
  refine ⟨by omega, by omega, ?_⟩
  rw [show n - (x + 1) = pre.length by omega, h]; simp
/-- what the iterator reads -/
def BkR (Bx ga n cap : Nat) (val : Nat → Value) (W : World) : Prop := W.cell? ⟨Bx, 0, none⟩ = some (.slice (some ⟨ga, 0, none⟩) n cap) ∧ ∀ j, j < n → W.cell? ⟨ga, j, none⟩ = some (val j)
set_option maxRecDepth 100000 in
set_option maxHeartbeats 4000000 in
theorem back_tells (Bx ga n cap : Nat) (val : Nat → Value) (hn : n ≤ 4096) :
    Tells Fence.wide 3 Try.prog 85 #[.pointer (some ⟨Bx, 0, none⟩)] (fun j : Nat => #[Value.int .i64 (j : Nat), val j]) (downs n) (BkR Bx ga n cap val) := by
  intro l J W hR hY h0
  have HY := Lib.hid hY; have H0 := Lib.hid h0; have HR := Lib.hid hR
  have vw : IntKind.i64.wrap ((n : Int) - 1) = (n : Int) - 1 := IntWalk.i64_in _ (by omega)
  have C1 := (hR [] W h0).1
  clear hY h0 hR
  refine callsIn_of_wp Try.func85 rfl trivial ?_ rfl
  simp only [Try.ntmps85, List.size_toArray, List.length_cons, List.length_nil, Nat.reduceAdd, Nat.reduceSub, Array.replicate_succ, Array.replicate_zero, List.push_toArray, List.append_toArray, List.nil_append, List.cons_append]
  gi_wp2_with fail
  gi_loopw [3] (fun i wr => ∃ r : Nat, r ≤ n ∧ i = .int .i64 ((r : Int) - 1) ∧ Hid (J ((downs n).take (n - r)) wr)) (fun i _ => (intOf i + 1).toNat)
  case atStart => exact ⟨n, Nat.le_refl _, rfl, Lib.hid (by rw [Nat.sub_self]; exact H0.out)⟩
  case round =>
    clear H0 C1
    obtain ⟨r, hr, rfl, HJ⟩ := hrel
    cases r with
    | succ m =>
      have em : (((m + 1 : Nat) : Int) - 1) = (m : Int) := by omega
      rw [em]
      have m0 : (0 : Int) ≤ (m : Int) := by omega
      have m1 : (m : Int) < (n : Int) := by omega
      have mw : IntKind.i64.wrap ((m : Int) - 1) = (m : Int) - 1 := IntWalk.i64_in _ (by omega)
      obtain ⟨cb, cj⟩ := HR.out _ _ HJ.out
      have cz := cj m (by omega)
      obtain ⟨fn, tmps, assign, body, hy, hY2⟩ := HY.out ((downs n).take (n - (m + 1))) m (downs m) wr (by rw [← downs_succ]; exact downs_split n (m + 1) hr) HJ.out
      have HT : Hid ((downs n).take (n - (m + 1)) ++ [m] = (downs n).take (n - m)) := Lib.hid (downs_take (by omega))
      have hm : m ≤ n := by omega
      clear hr em cj
      gi_wp2
      refine hY2.mono ?_
      rintro e w3 ⟨rfl, hJ3⟩
      have HJ3 : Hid (J ((downs n).take (n - m)) w3) := Lib.hid (by rw [← HT.out]; exact hJ3)
      clear hJ3
      gi_wp2
      go_roundw
      case rel => exact ⟨m, hm, rfl, HJ3⟩
      case measure => simp [intOf]
    | zero =>
      have k1 : ¬ ((0 : Int) ≤ ((0 : Nat) : Int) - 1) := by omega
      have F : Hid (J (downs n) wr) := Lib.hid (by have := HJ.out; rw [Nat.sub_zero, List.take_of_length_le (by rw [downs_length]; exact Nat.le_refl _)] at this; exact this)
      gi_wp2
      go_end0
      exact ⟨⟨_, rfl⟩, F.out⟩
theorem back_enters : ∀ args w, (callFunc 85 args).run Try.prog w = .ok (.enter 85 args) w := enters_of Try.func85 (by kernel_rfl) rfl
theorem backward_any (p : Option Addr) (n c : Nat) (w : World) :
    Calls Try.prog 74 #[.slice p n c] w fun e w' => e = .returned (.func (.func 85) #[] #[.pointer (some ⟨w.heap.size, 0, none⟩)]) ∧ w' = w.alloc (.cells #[.slice p n c] 86) := by
  go_enter Try.func74, Try.ntmps74
  go_wp2
  go_ret
  exact ⟨rfl, rfl⟩
end Go.Proofs.Ytjnehpkkkmicfaa.Ps
namespace Go.Proofs.Ytjnehpkkkmicfaa.Ps
open Go.RowKit Go.Lib Rw Ls Od Pk St _root_.Go.Proofs.Ytjnehpkkkmicfaa.Nm
attribute [local go_sem] Oper.semAt_some wide_fn'

/-- what a round leaves as it lay -/
def Kept2 (g b : Nat) (W0 W : World) : Prop := W0.heap.size ≤ W.heap.size ∧ ∀ k, k < W0.heap.size → k ≠ g → k ≠ b → W.heap[k]? = W0.heap[k]?
theorem Kept2.refl (g b : Nat) (W : World) : Kept2 g b W W := ⟨Nat.le_refl _, fun _ _ _ _ => rfl⟩
theorem kept2_own {β : Type} {g b B : Nat} {W0 : World} (hB : W0.heap.size ≤ B) : OwnFrom B (fun (_ : β) W => Kept2 g b W0 W) := fun _ W W' row hs hg hr =>
  ⟨Nat.le_trans hs.1 hg.size, fun k hk h1 h2 => (hg.block k (Nat.lt_of_lt_of_le hk hs.1) (fun e => by have := (hr k e.symm).1; omega)).trans (hs.2 k hk h1 h2)⟩
theorem setCell_grown0 (W : World) (a : Addr) (v : Value) : W.grownBy (W.setCell a v) (some a.block) :=
  ⟨rfl, rfl, rfl, (KeepsWalks.setCell W _ v).size, fun k _ hk => Below.heap_setCell _ _ _ k (fun e => hk (by rw [e]))⟩
theorem Kept2.put {g b : Nat} {W0 W : World} (h : Kept2 g b W0 W) (a : Addr) (v : Value) (ha : a.block = g ∨ a.block = b) : Kept2 g b W0 (W.setCell a v) :=
  ⟨Nat.le_trans h.1 (setCell_grown0 W a v).size, fun k hk h1 h2 => (Below.heap_setCell _ _ _ k (fun e => by rcases ha with ha | ha <;> omega)).trans (h.2 k hk h1 h2)⟩
theorem Kept2.alloc {g b : Nat} {W0 W : World} (h : Kept2 g b W0 W) (o : Obj) : Kept2 g b W0 (W.alloc o) :=
  ⟨Nat.le_trans h.1 (by simp), fun k hk h1 h2 => (Below.heap_alloc _ _ _ (Nat.lt_of_lt_of_le hk h.1)).trans (h.2 k hk h1 h2)⟩
theorem Kept2.boxed {g b B : Nat} {W0 W : World} {t : TypeId} {v : Value} (h : Kept2 g b W0 W) (hb : Boxed W0 B t v) (h1 : B ≠ g) (h2 : B ≠ b) : Boxed W B t v := (h.2 B hb.lt h1 h2).trans hb
theorem Kept2.rd {g b : Nat} {W0 W : World} {p : Nat} {xs : List Value} (h : Kept2 g b W0 W) (hr : Rd W0 (some ⟨p, 0, none⟩) xs) (h1 : p ≠ g) (h2 : p ≠ b) : Rd W (some ⟨p, 0, none⟩) xs := fun i hi => by
  obtain ⟨a, e, hl, hc⟩ := hr i hi
  cases e
  refine ⟨_, rfl, Nat.lt_of_lt_of_le hl h.1, ?_⟩
  rw [← hc]
  unfold World.cell?
  rw [add_block, h.2 _ hl h1 h2]
/-- what is counted, levels below r being left -/
def StC (V : Nat → Nat) (L : List Nat) (tot : Nat → Nat) (r k : Nat) (O : List Nat) : Prop := match r with
  | 0 => O.length = L.length ∧ ∀ i, i < L.length → O.getD i 0 = tot i
  | j + 1 => Cnt V L tot j k O
theorem stc_own {B bf b g n : Nat} {t e : TypeId} (P : List Nat → Nat → List Nat → Prop) (hg : g < B) (hb : bf < B) : OwnFrom B (fun (pre : List Nat) W => ∃ (k : Nat) (O : List Nat), P pre k O ∧ Boxed W bf t (.int .i64 (k : Nat)) ∧ Arr W b e g n (zs (up O))) := fun pre W W' row ⟨k, O, hP, hx, hA⟩ hgr hr =>
  ⟨k, O, hP, hx.kept hgr (fun e => by have := (hr bf e.symm).1; omega), World.ownsRow.kept hA hgr (.inr (fun e => by have := (hr g (by rw [← e]; rfl)).1; omega))⟩
theorem tot_le {V : Nat → Nat} {L : List Nat} {t : Nat → Nat} {j k : Nat} {O : List Nat} (h : Cnt V L t j k O) {i : Nat} (hi : i < L.length) : O.getD i 0 ≤ t i := by have := h.2.2 i hi; omega
theorem up_set (O : List Nat) (q v : Nat) : (zs (up O)).set q (.int .i64 (v : Nat)) = zs (up (O.set q v)) := by simp [zs, up, List.map_set]
theorem zup_getD (O : List Nat) (k : Nat) (h : k < O.length) : (zs (up O)).getD k (.bool false) = .int .i64 ((O.getD k 0 : Nat) : Int) := by simp [zs, up, h]
set_option maxHeartbeats 8000000 in
set_option maxRecDepth 100000 in
theorem counts_any (ws : List Nat) (ga cap n lm : Nat) (gs : List (Nat × Nat)) (w : World) (hn : n = (lv ws).length) (h2 : 2 ≤ n) (h5 : n ≤ 512) (hlm : 1 ≤ lm) (hlm2 : lm ≤ 15) (hgs : gs.length = lm) (hk : n ≤ 2 ^ (lm - 1 + 1))
    (ho : Rd w (some ⟨ga, 0, none⟩) (ovs (wf ws) (lv ws) gs)) (hl : LvsAt w (wf ws) (lv ws) gs) :
    Calls Try.prog 56 #[.slice (some ⟨ga, 0, none⟩) lm cap, .int .i64 (n : Nat)] w fun e w' => ∃ g c, e = .returned (.slice (some ⟨g, 0, none⟩) n c) ∧ w.heap.size ≤ g ∧ Rd w' (some ⟨g, 0, none⟩) (zs (up ((List.range n).map fun i => len (wf ws) (lv ws) (lm - 1) ((lv ws).getD i 0)))) ∧ Below w.heap.size w w' := by
  obtain ⟨i0, hi0, hz0, hz1, hz2⟩ := info_parts info_int
  have HO := Lib.hid ho; have HL := Lib.hid hl; have HN := Lib.hid hn; have HGS := Lib.hid hgs; have HK := Lib.hid hk
  obtain ⟨f0, hf0⟩ : ∃ x, x = 2 * n - 2 := ⟨_, rfl⟩
  have z1 : (2 : Int) * (n : Int) - 2 = (f0 : Int) := by omega
  obtain ⟨n2, hn2⟩ : ∃ x, x = 2 * n := ⟨_, rfl⟩
  have z2 : (2 : Int) * (n : Int) = (n2 : Int) := by omega
  have z3 : (n2 : Int) - 2 = (f0 : Int) := by omega
  have z4 : IntKind.i64.wrap (n2 : Int) = (n2 : Int) := IntWalk.i64_in _ (by omega)
  have z5 : IntKind.i64.wrap (f0 : Int) = (f0 : Int) := IntWalk.i64_in _ (by omega)
  have HF0 := Lib.hid hf0
  clear ho hl hn hgs hf0 hn2 hk
  refine (callsIn_wide (n := 4)).1 (callsIn_of_wp_marks Try.func56 rfl trivial ?_ rfl)
  simp only [Try.ntmps56, List.size_toArray, List.length_cons, List.length_nil, Nat.reduceAdd, Nat.reduceSub, Array.replicate_succ, Array.replicate_zero, List.push_toArray, List.append_toArray, List.nil_append, List.cons_append]
  refine wpIn_wide.2 ?_
  go_wp2_with (at_make; refine wpList_make_full _ rfl _ _ 22 rfl w.heap.size 3 i0 (.int .i64 0) 1 Try.underlying22 hi0 hz0 hz1 .i64 .i64 ↑n ↑n n rfl rfl rfl rfl ?c1 ?c2 ?c3 ?_)
  case c1 => rw [hz2]; omega
  case c2 => unfold maxLen; omega
  case c3 => simp
  intro w1 hown1 hgr1
  have b1 : Below w.heap.size w w1 := (Below.refl _ _).grown hgr1 (Nat.le_refl _) (by simp)
  rw [toList_madeCells_one] at hown1
  obtain ⟨g, hg⟩ : ∃ g, g = w.heap.size := ⟨_, rfl⟩
  rw [← hg] at hown1 b1
  try rw [← hg]
  obtain ⟨s1, hs1⟩ : ∃ s, s = w1.heap.size := ⟨_, rfl⟩
  have hgs1 : g < s1 := by rw [hs1]; exact (hown1.lt g rfl).2
  have HB := Lib.hid (backward_any (some ⟨ga, 0, none⟩) lm cap)
  have hbx := Lib.hid (And.intro (Boxed.new w1 22 (.slice (some ⟨g, 0, none⟩) n n)) (And.intro (Boxed.new (w1.alloc (.cells #[.slice (some ⟨g, 0, none⟩) n n] 22)) 3 (.int .i64 f0)) (Boxed.new ((w1.alloc (.cells #[.slice (some ⟨g, 0, none⟩) n n] 22)).alloc (.cells #[.int .i64 f0] 3)) 86 (.slice (some ⟨ga, 0, none⟩) lm cap))))
  go_wp2_with fail
  refine (HB.out _).mono ?_
  rintro e w8 ⟨rfl, rfl⟩
  go_wp2_with fail
  try rw [← hg]
  rw [← hs1] at hbx ⊢
  obtain ⟨wA, hwA⟩ : ∃ wA, wA = ((w1.alloc (.cells #[.slice (some ⟨g, 0, none⟩) n n] 22)).alloc (.cells #[.int .i64 f0] 3)).alloc (.cells #[.slice (some ⟨ga, 0, none⟩) lm cap] 86) := ⟨_, rfl⟩
  have hsA : wA.heap.size = s1 + 3 := by rw [hwA, hs1]; simp
  have b1A : Below s1 w1 wA := by rw [hwA, hs1]; exact (((Below.refl _ w1).alloc (Nat.le_refl _) _).alloc (by simp) _).alloc (by simp; omega) _
  have Z5 : Boxed wA s1 22 (.slice (some ⟨g, 0, none⟩) n n) := by rw [hwA]; exact (hbx.out.1.alloc _).alloc _
  have Z6 : Boxed wA (s1 + 1) 3 (.int .i64 f0) := by
    have := hbx.out.2.1.alloc (.cells #[.slice (some ⟨ga, 0, none⟩) lm cap] 86)
    rw [hwA]; simp only [World.size_alloc, ← hs1] at this ⊢; exact this
  have ZX : Boxed wA (s1 + 1 + 1) 86 (.slice (some ⟨ga, 0, none⟩) lm cap) := by
    have := hbx.out.2.2
    rw [hwA]; simp only [World.size_alloc, ← hs1] at this ⊢; exact this
  have hAr : Arr wA g 3 g n (zs (up (List.replicate (lv ws).length 0))) := by
    have h1 := own_belowB hown1 (b1A) (fun k e => by simp [Value.ownBlock] at e; omega)
    have e : zs (up (List.replicate (lv ws).length 0)) = List.replicate n (.int .i64 0) := by rw [HN.out]; simp [zs, up]
    rw [e]; exact h1
  have hbA : Below g w wA := b1.trans (b1A.mono (by omega))
  have X0 := HO.out.below (by rw [← hg]; exact hbA)
  have XL := HL.out.below (by rw [← hg]; exact hbA)
  have hLpos : 0 < (lv ws).length := by rw [← HN.out]; omega
  have hgaL : ga < g := by
    obtain ⟨a, e, hlt, _⟩ := HO.out 0 (by rw [ovs_length, HGS.out]; omega)
    cases e; rw [hg]; exact hlt
  have hgL : ∀ j, j < lm → (gs.getD j (0, 0)).1 < g := fun j hj => by rw [hg]; exact HL.out.lt hLpos (by rw [HGS.out]; exact hj)
  have HZ5 := Lib.hid Z5; have HZ6 := Lib.hid Z6; have HZX := Lib.hid ZX; have HAr := Lib.hid hAr; have HbA := Lib.hid hbA; have HX0 := Lib.hid X0; have HXL := Lib.hid XL; have HgaL := Lib.hid hgaL; have HgL := Lib.hid hgL; have HG := Lib.hid hg; have HsA := Lib.hid hsA
  have TOT : Hid (∀ i, i < n → len (wf ws) (lv ws) (lm - 1) ((lv ws).getD i 0) ≤ 16) := Lib.hid (fun i hi => by
    have hi2 : i < (lv ws).length := by rw [← HN.out]; exact hi
    have := ((len_full (lv_up ws) (lv_nodup ws) (by rw [← HN.out]; exact h2) (by rw [← HN.out]; exact HK.out)).1 (lv ws)[i] (List.getElem_mem hi2)).2
    simp only [List.getD_eq_getElem?_getD, List.getElem?_eq_getElem hi2, Option.getD_some]
    omega)
  obtain ⟨tot, htot⟩ : ∃ tot : Nat → Nat, tot = fun i => len (wf ws) (lv ws) (lm - 1) ((lv ws).getD i 0) := ⟨_, rfl⟩
  have HTOT := Lib.hid htot
  have TOT2 : Hid (∀ i, i < n → tot i ≤ 16) := Lib.hid (fun i hi => by rw [htot]; exact TOT.out i hi)
  have HST : Hid (StC (wf ws) (lv ws) tot lm f0 (List.replicate (lv ws).length 0)) := Lib.hid (by
    obtain ⟨j, rfl⟩ : ∃ j, lm = j + 1 := ⟨lm - 1, by omega⟩
    have := Cnt.start (W := wf ws) (L := lv ws) (j := j) (lev_long j (by rw [← HN.out]; have := HK.out; simpa using this))
    rw [← HN.out] at this
    rw [htot, HF0.out, ← HN.out]
    exact this)
  rw [← hwA]
  clear hwA hbx HB Z5 Z6 ZX hAr hbA X0 XL hLpos hgaL hgL hsA b1A b1 hown1 hgr1 hg hs1 htot TOT
  clear w1
  refine (wpIn_wide (n := 4)).1 ?_
  refine range_told rfl (by omega) (gf := 85) (lb := #[.pointer (some ⟨s1 + 1 + 1, 0, none⟩)]) rfl trivial back_enters
    (back_tells (s1 + 1 + 1) ga lm cap (fun j => .slice (some ⟨(gs.getD j (0, 0)).1, 0, none⟩) (lev (wf ws) (lv ws) j).length (gs.getD j (0, 0)).2) (by omega)) (fun _ => rfl)
    (fun pre W => Kept2 g (s1 + 1) wA W ∧ Below g w W ∧ ∃ (k : Nat) (O : List Nat), (StC (wf ws) (lv ws) tot (lm - pre.length) k O ∧ k ≤ 4096) ∧ Boxed W (s1 + 1) 3 (.int .i64 (k : Nat)) ∧ Arr W g 3 g n (zs (up O)))
    ((kept2_own (Nat.le_refl _)).and ((ownFrom_below (by rw [HG.out]; exact Nat.le_refl _) (by rw [HsA.out]; omega)).and (stc_own _ (by rw [HsA.out]; omega) (by rw [HsA.out]; omega))))
    (fun pre W h => ⟨(h.1.boxed HZX.out (by omega) (by omega)).cell, fun j hj => by
      have := (h.1.rd HX0.out (by have := HgaL.out; omega) (by have := HgaL.out; omega)).at (i := j) (by rw [ovs_length, HGS.out]; exact hj)
      rw [Addr.add_lit, Nat.zero_add, ovs_at _ _ _ (by rw [HGS.out]; exact hj)] at this
      exact this⟩)
    ⟨Kept2.refl _ _ _, HbA.out, f0, _, ⟨by rw [List.length_nil, Nat.sub_zero]; exact HST.out, by omega⟩, HZ6.out, HAr.out⟩
    (fun j => { tmps := #[.slice (some ⟨ga, 0, none⟩) lm cap, .int .i64 (n : Nat), undef, undef, .slice none 0 0, .pointer (some ⟨s1, 0, none⟩), .pointer (some ⟨s1 + 1, 0, none⟩), undef, .slice (some ⟨(gs.getD j (0, 0)).1, 0, none⟩) (lev (wf ws) (lv ws) j).length (gs.getD j (0, 0)).2, undef, undef, undef, .int .i64 (n : Nat), .slice (some ⟨g, 0, none⟩) n n, .int .i64 (n : Nat), .int .i64 (n2 : Nat), .int .i64 (f0 : Nat), .slice (some ⟨ga, 0, none⟩) lm cap, .func (.func 85) #[] #[.pointer (some ⟨s1 + 1 + 1, 0, none⟩)], .int .i64 (j : Nat), .slice (some ⟨(gs.getD j (0, 0)).1, 0, none⟩) (lev (wf ws) (lv ws) j).length (gs.getD j (0, 0)).2, undef, undef, undef, undef, undef, undef, undef, undef, undef, undef, undef, undef, undef, undef, undef, undef, undef, undef, undef, undef, undef, undef, undef, undef], defers := [] }) ?assign ?body ?done
  case assign =>
    intro lp j W K hK
    gi_wp2
    exact hK
  case body =>
    intro lp pre j rest W hx hI
    obtain ⟨hK2, hBw, k, O, ⟨hS, hk4⟩, h6, hA⟩ := hI
    obtain ⟨hj1, hj2, -⟩ := downs_at hx
    have hr : lm - pre.length = j + 1 := by omega
    rw [hr] at hS
    have HC : Hid (Cnt (wf ws) (lv ws) tot j k O) := Lib.hid hS
    obtain ⟨T, hT⟩ : ∃ T, T = lev (wf ws) (lv ws) j := ⟨_, rfl⟩
    have HTT := Lib.hid hT
    have hrT := hK2.rd (HXL.out j (by rw [HGS.out]; exact hj1)).1 (by have := HgL.out j hj1; omega) (by have := HgL.out j hj1; omega)
    have hcT := (HXL.out j (by rw [HGS.out]; exact hj1)).2
    have hgt := HgL.out j hj1
    have hkT := hS.2.1
    have hOl := hS.1
    have hlT := lfc_lev (wf ws) (lv ws) j
    rw [← hT] at hrT hcT hkT hlT ⊢
    obtain ⟨gt, hgt2⟩ : ∃ x, x = (gs.getD j (0, 0)).1 := ⟨_, rfl⟩
    obtain ⟨ct, hct2⟩ : ∃ x, x = (gs.getD j (0, 0)).2 := ⟨_, rfl⟩
    have hrA := (HXL.out j (by rw [HGS.out]; exact hj1)).1
    rw [← hgt2] at hrT hgt hrA
    rw [← hT] at hrA
    have HRA := Lib.hid hrA
    rw [← hct2] at hcT
    rw [← hgt2, ← hct2]
    rw [← HN.out] at hOl hlT
    have HR := Lib.hid hrT; have HLT := Lib.hid hlT; have HOL := Lib.hid hOl
    have HLEN : Hid (k ≤ T.length) := Lib.hid hkT
    have OB : Hid (∀ q, q < n → O.getD q 0 ≤ 16) := Lib.hid (fun q hq => Nat.le_trans (tot_le HC.out (by rw [← HN.out]; exact hq)) (TOT2.out q hq))
    have HFIN : Hid (∀ W', Kept2 g (s1 + 1) wA W' → Below g w W' → Boxed W' (s1 + 1) 3 (.int .i64 ((2 * (k - lfc (T.take k)) : Nat) : Int)) → Arr W' g 3 g n (zs (up (bump O (lfc (T.take k))))) →
        Kept2 g (s1 + 1) wA W' ∧ Below g w W' ∧ ∃ (k : Nat) (O : List Nat), (StC (wf ws) (lv ws) tot (lm - (pre ++ [j]).length) k O ∧ k ≤ 4096) ∧ Boxed W' (s1 + 1) 3 (.int .i64 (k : Nat)) ∧ Arr W' g 3 g n (zs (up O))) := Lib.hid (fun W' a1 a2 a3 a4 => by
      refine ⟨a1, a2, _, _, ⟨?_, ?_⟩, a3, a4⟩
      · rw [show lm - (pre ++ [j]).length = j by simp; omega]
        cases j with
        | zero =>
          have := HC.out.low (lv_nodup ws)
          rw [← HTT.out] at this
          exact this
        | succ j =>
          have := HC.out.step (lv_up ws) (lv_nodup ws)
          rw [← HTT.out] at this
          unfold nxt at this
          rw [← HTT.out] at this
          exact this
      · cases j with
        | zero =>
          have h1 : k ≤ n := by have := HLEN.out; rw [HTT.out] at this; simpa [lev, ← HN.out] using this
          omega
        | succ j =>
          have := (step_up (lv_up ws) (W := wf ws) (L := lv ws) (j := j) (k := k) (by rw [← HTT.out]; exact HLEN.out) 0).2
          unfold nxt at this
          rw [← HTT.out] at this
          have h3 := lev_le (wf ws) (lv ws) j
          rw [← HN.out] at h3
          omega)
    have h5' := hK2.boxed HZ5.out (by omega) (by omega)
    have c6 := h6.cell
    have d1 : (0 : Int) ≤ (k : Int) := by omega
    have d2 : (k : Int) ≤ (ct : Int) := by omega
    have HK2 := Lib.hid hK2; have HBw := Lib.hid hBw; have H6 := Lib.hid h6; have HA := Lib.hid hA
    have KF : Hid (KeepsFrom wA.heap.size W W) := Lib.hid (KeepsFrom.refl _ _)
    have HS3 : Hid (wA.heap.size = s1 + 3) := HsA
    clear hrA hx hS hT hK2 hBw h6 hA hgt2 hct2 hrT hkT hOl hlT hcT h5'
    gi_wp2
    gi_loopw [9, 25] (fun vl vi wr => ∃ t : Nat, t ≤ k ∧ vi = .int .i64 (t : Nat) ∧ vl = .int .i64 ((lfc (T.take t) : Nat) : Int) ∧ Hid (Kept2 g (s1 + 1) wA wr) ∧ Hid (Below g w wr) ∧ Hid (Boxed wr (s1 + 1) 3 (.int .i64 (k : Nat))) ∧ Hid (Arr wr g 3 g n (zs (up (bump O (lfc (T.take t)))))) ∧ Hid (KeepsFrom wA.heap.size W wr)) (fun _ i _ => k - (intOf i).toNat)
    case atStart => exact ⟨0, Nat.zero_le _, rfl, rfl, HK2, HBw, H6, by rw [List.take_zero]; show Hid (Arr W g _ g n (zs (up (bump O 0)))); rw [bump_zero]; exact HA, KF⟩
    case round =>
      clear HA H6 HBw HK2 KF c6
      obtain ⟨t, htk, rfl, rfl, HK2, HBw, H6, HA, KF⟩ := hrel
      have hwA : wA.heap.size ≤ wr.heap.size := HK2.out.1
      by_cases hlt : t < k
      · have htT : t < T.length := by have := HLEN.out; omega
        have hsucc := lfc_succ htT
        have hqn : lfc (T.take (t + 1)) ≤ n := by rw [← HLT.out]; exact lfc_le T (t + 1)
        obtain ⟨cw, cl⟩ := pk_cell (HK2.out.rd HRA.out (by omega) (by omega)) htT
        obtain ⟨x, hx⟩ : ∃ x, x = T[t].wt (wf ws) := ⟨_, rfl⟩
        obtain ⟨q, hq⟩ : ∃ q, q = lfc (T.take t) := ⟨_, rfl⟩
        rw [← hx] at cw
        rw [← hq] at HA hsucc ⊢
        have k0 : (0 : Int) ≤ (t : Int) := by omega
        have k1 : (t : Int) < (k : Int) := by omega
        have hq2 := Lib.hid hq
        have hA0 : Below wr.heap.size wr (wr.alloc (.cells #[.int .u64 (x : Nat), .bool (leaf T[t])] 121)) := (Below.refl _ _).alloc (Nat.le_refl _) _
        have HK3 := Lib.hid (HK2.out.alloc (.cells #[.int .u64 (x : Nat), .bool (leaf T[t])] 121))
        have HB3 : Hid (Below g w (wr.alloc (.cells #[.int .u64 (x : Nat), .bool (leaf T[t])] 121))) := Lib.hid (HBw.out.alloc (by have := HS3.out; omega) _)
        have H63 := Lib.hid (H6.out.alloc (.cells #[.int .u64 (x : Nat), .bool (leaf T[t])] 121))
        have HA3 := Lib.hid (HA.out.below hA0)
        have KF3 : Hid (KeepsFrom wA.heap.size W (wr.alloc (.cells #[.int .u64 (x : Nat), .bool (leaf T[t])] 121))) := Lib.hid (KF.out.trans ((KeepsOthers.alloc _ _).from _))
        have c5 := (HK3.out.boxed HZ5.out (by omega) (by omega)).cell
        have hmes : t < k := hlt
        clear hx hq hA0
        cases hlf : leaf T[t] with
        | true =>
          rw [hlf] at cl HK3 HB3 H63 HA3 KF3 c5 hsucc
          rw [if_pos rfl] at hsucc
          have hqlt : q < n := by omega
          have cq := HA3.out.cell hqlt
          have fq := HA3.out.free q
          rw [zup_getD _ _ (by rw [bump_length, HOL.out]; exact hqlt)] at cq
          have hv := bump_at (O := O) (q := q) (i := q) (by rw [HOL.out]; exact hqlt)
          rw [if_neg (by omega), Nat.add_zero] at hv
          have hvb := OB.out q hqlt
          have HBS := Lib.hid (bump_succ (O := O) (q := q) (by rw [HOL.out]; exact hqlt))
          obtain ⟨v, hv2⟩ : ∃ v, v = (bump O q).getD q 0 := ⟨_, rfl⟩
          rw [← hv2] at cq hv HBS
          have hvl : v ≤ 16 := by omega
          obtain ⟨v1, hv1⟩ : ∃ v1, v1 = v + 1 := ⟨_, rfl⟩
          rw [← hv1] at HBS
          have y1 : (v : Int) + 1 = (v1 : Int) := by omega
          have y2 : IntKind.i64.wrap (v1 : Int) = (v1 : Int) := IntWalk.i64_in _ (by omega)
          have y3 : (0 : Int) ≤ (q : Int) := by omega
          have y4 : (q : Int) < (n : Int) := by omega
          obtain ⟨q1, hq1⟩ : ∃ q1, q1 = q + 1 := ⟨_, rfl⟩
          have y5 : (q : Int) + 1 = (q1 : Int) := by omega
          have y6 : IntKind.i64.wrap (q1 : Int) = (q1 : Int) := IntWalk.i64_in _ (by omega)
          have HQ1 : Hid (q1 = lfc (T.take (t + 1))) := Lib.hid (by rw [hsucc, hq1])
          have HQS : Hid (q1 = q + 1) := Lib.hid hq1
          have E1 := Lib.hid (HK3.out.put ⟨g, q, none⟩ (.int .i64 (v1 : Nat)) (.inl rfl))
          have E2 := Lib.hid (below_put HB3.out (a := ⟨g, q, none⟩) (Nat.le_refl _) (.int .i64 (v1 : Nat)))
          have E3 := Lib.hid (H63.out.kept (setCell_grown0 _ ⟨g, q, none⟩ (.int .i64 (v1 : Nat))) (fun e => absurd (Option.some.inj e) (by show s1 + 1 ≠ g; omega)))
          have E4 := HA3.out.set q (.int .i64 (v1 : Nat))
          rw [up_set, HBS.out, ← HQS.out] at E4
          have E4 := Lib.hid E4
          have E5 : Hid (KeepsFrom wA.heap.size W ((wr.alloc (.cells #[.int .u64 (x : Nat), .bool true] 121)).setCell ⟨g, q, none⟩ (.int .i64 (v1 : Nat)))) := Lib.hid (KF3.out.trans (KeepsFrom.of_grownBy (setCell_grown0 _ ⟨g, q, none⟩ _) (fun j e => by cases e; show g < wA.heap.size; rw [HS3.out]; omega)))
          clear hsucc hv hv2 hv1 hq1 hlf HK3 HB3 H63 HA3 KF3 HBS hvb hqn hqlt
          gi_wp2
          go_roundw
          case rel => exact ⟨t + 1, by omega, by go_num, by rw [HQ1.out], E1, E2, E3, by rw [← HQ1.out]; exact E4, E5⟩
          case measure => simp [intOf]; omega
        | false =>
          rw [hlf] at cl HK3 HB3 H63 HA3 KF3 c5 hsucc
          rw [if_neg (by simp), Nat.add_zero] at hsucc
          have HQ1 : Hid (q = lfc (T.take (t + 1))) := Lib.hid hsucc.symm
          clear hsucc hlf hqn
          gi_wp2
          go_roundw
          case rel => exact ⟨t + 1, by omega, by go_num, by rw [HQ1.out], HK3, HB3, H63, by rw [← HQ1.out]; exact HA3, KF3⟩
          case measure => simp [intOf]; omega
      · obtain rfl : t = k := by omega
        have hqk : lfc (T.take t) ≤ t := by have := lfc_len (T.take t); rw [List.length_take] at this; omega
        have FIN := Lib.hid (HFIN.out)
        obtain ⟨q, hq⟩ : ∃ q, q = lfc (T.take t) := ⟨_, rfl⟩
        rw [← hq] at HA HFIN hqk ⊢
        have c6 := H6.out.cell
        have f6 := H6.out.frozen
        have k1 : ¬ (t : Int) < (t : Int) := by omega
        obtain ⟨u, hu⟩ : ∃ u, u = t - q := ⟨_, rfl⟩
        rw [← hu] at HFIN
        have y1 : (t : Int) - (q : Int) = (u : Int) := by omega
        have y2 : IntKind.i64.wrap (u : Int) = (u : Int) := IntWalk.i64_in _ (by omega)
        obtain ⟨u2, hu2⟩ : ∃ u2, u2 = 2 * u := ⟨_, rfl⟩
        rw [← hu2] at HFIN
        have y3 : (2 : Int) * (u : Int) = (u2 : Int) := by omega
        have y4 : IntKind.i64.wrap (u2 : Int) = (u2 : Int) := IntWalk.i64_in _ (by omega)
        have E1 := HK2.out.put ⟨s1 + 1, 0, none⟩ (.int .i64 (u2 : Nat)) (.inr rfl)
        have E2 := below_put HBw.out (a := ⟨s1 + 1, 0, none⟩) (by show g ≤ s1 + 1; omega) (.int .i64 (u2 : Nat))
        have E3 := H6.out.set (.int .i64 (u2 : Nat))
        have E4 := HA.out.other (a := ⟨s1 + 1, 0, none⟩) (by show s1 + 1 ≠ g; omega) (.int .i64 (u2 : Nat))
        have E5 : Hid (KeepsFrom wA.heap.size W (wr.setCell ⟨s1 + 1, 0, none⟩ (.int .i64 (u2 : Nat)))) := Lib.hid (KF.out.trans (KeepsFrom.of_grownBy (setCell_grown0 _ ⟨s1 + 1, 0, none⟩ _) (fun j e => by cases e; show s1 + 1 < wA.heap.size; rw [HS3.out]; omega)))
        have FF := Lib.hid (HFIN.out _ E1 E2 E3 E4)
        clear E1 E2 E3 E4 hu hu2 hq hqk FIN HFIN hlt
        gi_wp2
        exact ⟨rfl, E5.out, FF.out⟩
  case done =>
    rintro D W hD ⟨hK2, hBw, k, O, ⟨hS, hk4⟩, h6, hA⟩ hDf
    rw [downs_length, Nat.sub_self] at hS
    have c5 := (hK2.boxed HZ5.out (by omega) (by omega)).cell
    have HS0 : Hid (O = (List.range n).map fun i => len (wf ws) (lv ws) (lm - 1) ((lv ws).getD i 0)) := Lib.hid (by
      obtain ⟨e1, e2⟩ := hS
      apply List.ext_getElem
      · rw [e1, List.length_map, List.length_range, HN.out]
      · intro i h1 h3
        have := e2 i (by rw [← e1]; exact h1)
        rw [HTOT.out, List.getD_eq_getElem?_getD, List.getElem?_eq_getElem h1, Option.getD_some] at this
        rw [this]
        simp)
    have HA := Lib.hid hA; have HBw := Lib.hid hBw; have HD := Lib.hid hD; have HDf := Lib.hid hDf
    clear hK2 hBw hS h6 hA hD hDf
    go_wp2_with fail
    refine ⟨by simp, .inl ⟨_, _, rfl, run_takeDeferred HDf.out, ?_⟩⟩
    have hb2 := HBw.out.trans (belowK_b (w := wA) (n₀ := g) (by rw [HsA.out]; omega) W D _ (.deferred none) HD.out HDf.out rfl rfl)
    have hA2 : Arr (W.putObj D (.deferred none)) g 3 g n (zs (up O)) := World.ownsRow.kept HA.out (grownBy_putObj' _ D (.deferred none)) (.inr (fun e => by
      have : g = D := by simpa [Value.ownBlock] using e
      have := HD.out; have := HsA.out; omega))
    refine ⟨.slice (some ⟨g, 0, none⟩) n n, by simp [results, Try.results56, go_sem], ?_⟩
    exact ⟨g, n, rfl, by rw [HG.out]; exact Nat.le_refl _, by rw [← HS0.out]; exact hA2.rd, by rw [← HG.out]; exact hb2⟩
end Go.Proofs.Ytjnehpkkkmicfaa.Ps
namespace Go.Proofs.Ytjnehpkkkmicfaa.Ps
open Go.RowKit Go.Lib Rw Ls Od Pk St _root_.Go.Proofs.Ytjnehpkkkmicfaa.Nm

theorem rd_other {w : World} {A : Option Addr} {xs : List Value} (h : Rd w A xs) {a : Addr} (ha : ∀ q, A = some q → q.block ≠ a.block) (v : Value) : Rd (w.setCell a v) A xs := fun i hi => by
  obtain ⟨q, e, hl, hc⟩ := h i hi
  refine ⟨q, e, Nat.lt_of_lt_of_le hl (KeepsWalks.setCell w a v).size, ?_⟩
  rw [World.cell?_setCell_other _ _ _ _ (fun h2 => ha q e (by rw [← add_block q i, h2]))]
  exact hc
set_option maxHeartbeats 4000000 in
set_option maxRecDepth 100000 in
theorem plengths_bad (ws : List Nat) (lim : Int) (p : Option Addr) (c : Nat) (w : World) (hp : Rd w p (nums ws)) (hl : ws.length ≤ 17592186044416) (hb : okL ws lim = false) :
    Calls Try.prog 24 #[.slice p ws.length c, .int .i64 lim] w (IE w (lenR ws lim)) := by
  have F : Hid (lenR ws lim = ([], 1)) := Lib.hid (by unfold lenR; rw [hb]; rfl)
  have CR := pweights_any ws p c w hp hl
  cases ho : okW ws with
  | false =>
    rw [ho] at CR
    have C := Lib.hid CR
    clear CR ho hp hb hl
    go_enter Try.func24, Try.ntmps24
    go_wp2_with fail
    refine C.out.mono ?_
    rintro e w1 ⟨rfl, rfl⟩
    go_wp2_with fail
    refine bodyPost_ret (v := .tuple #[.slice none 0 0, .int .i64 1]) (by simp [results, Try.results24, go_sem]) rfl ?_
    exact ie_mk F.out rfl (Nat.le_refl _) (Rd.nil _ _) (Below.refl _ _)
  | true =>
    have hlm : okLim lim = false := by
      unfold okL at hb
      unfold okLim
      rw [ho, Bool.true_and] at hb
      exact hb
    have CL := plimit_any lim w
    rw [hlm] at CL
    rw [ho] at CR
    have C := Lib.hid CR
    have D := Lib.hid CL
    clear CR CL ho hp hb hl hlm
    go_enter Try.func24, Try.ntmps24
    go_wp2_with fail
    refine C.out.mono ?_
    rintro e w1 ⟨rfl, rfl⟩
    go_wp2_with fail
    refine D.out.mono ?_
    rintro e w2 ⟨rfl, rfl⟩
    go_wp2_with fail
    refine bodyPost_ret (v := .tuple #[.slice none 0 0, .int .i64 1]) (by simp [results, Try.results24, go_sem]) rfl ?_
    exact ie_mk F.out rfl (Nat.le_refl _) (Rd.nil _ _) (Below.refl _ _)
set_option maxHeartbeats 8000000 in
set_option maxRecDepth 100000 in
theorem plengths_ok (ws : List Nat) (lm n : Nat) (p : Option Addr) (c : Nat) (w : World) (hn : n = ws.length) (hp : Rd w p (nums ws)) (hb : okL ws (lm : Int) = true) :
    Calls Try.prog 24 #[.slice p n c, .int .i64 (lm : Int)] w (IE w (lenR ws (lm : Int))) := by
  obtain ⟨i0, hi0, hz0, hz1, hz2⟩ := info_parts info_int
  have hb2 := hb
  unfold okL at hb2
  simp only [Bool.and_eq_true, decide_eq_true_eq] at hb2
  obtain ⟨⟨ho, g1⟩, g2⟩ := hb2
  have hl1 : 1 ≤ lm ∧ lm ≤ 15 := by omega
  have hl5 := okW_len ho
  rw [← hn] at hl5
  have CR0 := pweights_any ws p c w hp (by rw [← hn]; omega)
  rw [ho, ← hn] at CR0
  have hlim : okLim (lm : Int) = true := by unfold okLim; rw [decide_eq_true g1, decide_eq_true g2]; rfl
  have CL0 := plimit_any (lm : Int) w
  rw [hlim] at CL0
  have hsl := sy_len ws
  obtain ⟨sz, hsz⟩ : ∃ sz, sz = (sy ws).length := ⟨_, rfl⟩
  rw [← hsz, ← hn] at hsl
  have CLE := leaves_any ws p c n sz w hn (by omega) hsz hp
  obtain ⟨x0, hx0⟩ : ∃ x0 : Nat, x0 = 2 ^ lm := ⟨_, rfl⟩
  have sh0 := shl_i64 lm hl1.2
  rw [← hx0] at sh0
  have hx0b : x0 ≤ 32768 := by rw [hx0]; exact Nat.pow_le_pow_right (n := 2) (by omega) hl1.2
  have HX0 := Lib.hid hx0
  have C1 := Lib.hid CR0; have C2 := Lib.hid CL0; have C3 := Lib.hid CLE
  have HN := Lib.hid hn; have HSZ := Lib.hid hsz; have HOK := Lib.hid ho; have HBD := Lib.hid hb; have HP := Lib.hid hp
  have e5 : decide (15 < lm) = false := decide_eq_false (by omega)
  clear CR0 CL0 CLE hn hsz hx0 hlim ho hb hp g1 g2
  go_enter Try.func24, Try.ntmps24
  go_wp2_with fail
  refine C1.out.mono ?_
  rintro e w1 ⟨rfl, hw1⟩
  replace hw1 := hw1.symm
  subst hw1
  go_wp2_with fail
  refine C2.out.mono ?_
  rintro e w2 ⟨rfl, hw2⟩
  replace hw2 := hw2.symm
  subst hw2
  go_wp2_with fail
  refine C3.out.mono ?_
  rintro e w3 ⟨g, cap, rfl, h1, h2, h3, h4⟩
  have HG := Lib.hid (And.intro h1 h2); have HRS := Lib.hid h3; have HB3 := Lib.hid h4
  clear h1 h2 h3 h4 C1 C2 C3
  by_cases hfull : x0 < sz
  · have t1 : decide ((x0 : Int) < (sz : Int)) = true := decide_eq_true (by omega)
    have t2 : decide (x0 < sz) = true := decide_eq_true hfull
    have F : Hid (lenR ws (lm : Int) = ([], 8)) := Lib.hid (by unfold lenR; rw [if_pos HBD.out, Int.toNat_natCast, if_pos (by rw [← HX0.out, ← HSZ.out]; exact hfull)])
    clear hfull
    go_wp2_with fail
    refine bodyPost_ret (v := .tuple #[.slice none 0 0, .int .i64 8]) (by simp [results, Try.results24, go_sem]) rfl ?_
    exact ie_mk F.out rfl (Nat.le_refl _) (Rd.nil _ _) HB3.out
  have t1 : decide ((x0 : Int) < (sz : Int)) = false := decide_eq_false (by omega)
  have t2 : decide (x0 < sz) = false := decide_eq_false hfull
  have F : Hid (lenR ws (lm : Int) = (lens ws lm, 0)) := Lib.hid (by unfold lenR; rw [if_pos HBD.out, Int.toNat_natCast, if_neg (by rw [← HX0.out, ← HSZ.out]; exact hfull)])
  have HFU := Lib.hid hfull
  clear hfull
  go_wp2_with (at_make; refine wpList_make_full _ rfl _ _ 22 rfl w3.heap.size 3 i0 (.int .i64 0) 1 Try.underlying22 hi0 hz0 hz1 .i64 .i64 ↑n ↑n n rfl rfl rfl rfl ?c1 ?c2 ?c3 ?_)
  case c1 => rw [hz2]; omega
  case c2 => unfold maxLen; omega
  case c3 => simp
  intro w4 hown4 hgr4
  have b4 : Below w3.heap.size w3 w4 := (Below.refl _ _).grown hgr4 (Nat.le_refl _) (by simp)
  rw [toList_madeCells_one] at hown4
  obtain ⟨gL, hgL⟩ : ∃ gL, gL = w3.heap.size := ⟨_, rfl⟩
  rw [← hgL] at hown4 b4 
  have HGL := Lib.hid hgL
  have hAr : Arr w4 gL 3 gL n (zs (up (List.replicate n 0))) := by
    have e : zs (up (List.replicate n 0)) = List.replicate n (.int .i64 0) := by simp [zs, up]
    rw [e]; exact hown4
  have HAr := Lib.hid hAr
  have HB4 : Hid (Below w.heap.size w w4) := Lib.hid (HB3.out.trans (b4.mono (by rw [hgL]; exact HB3.out.size)))
  have HRS4 : Hid (Rd w4 (some ⟨g, 0, none⟩) (zs (up (lv ws)))) := Lib.hid (HRS.out.below (by rw [← hgL]; exact b4))
  have hgg : g < gL := by rw [hgL]; exact HG.out.2
  try rw [← hgL]
  clear hown4 hgr4 b4 hAr hgL
  have HSL : Hid ((lv ws).length = sz) := Lib.hid (by rw [lv_len, HSZ.out])
  have HLL : Hid ((lens ws lm).length = n) := Lib.hid (by rw [lens_length, HN.out])
  by_cases hs0 : sz = 0
  · have u1 : ((sz : Int) == 1) = false := by rw [beq_eq_false_iff_ne]; omega
    have u2 : ((sz : Int) == 0) = true := by rw [beq_iff_eq]; omega
    have u3 : (sz == 0) = true := by rw [beq_iff_eq]; exact hs0
    have u4 : (sz == 1) = false := by rw [beq_eq_false_iff_ne]; omega
    have HFE : Hid (lens ws lm = List.replicate n 0) := Lib.hid (by rw [few_none (by rw [← HSZ.out]; exact hs0), HN.out])
    clear hs0
    go_wp2_with fail
    refine bodyPost_ret (v := .tuple #[.slice (some ⟨gL, 0, none⟩) n n, .int .i64 0]) (by simp [results, Try.results24, go_sem]) rfl ?_
    exact ie_mk F.out HLL.out (Nat.le_refl _) (by rw [HFE.out]; exact HAr.out.rd) HB4.out
  by_cases hs1 : sz = 1
  · have u1 : ((sz : Int) == 1) = true := by rw [beq_iff_eq]; omega
    have u4 : (sz == 1) = true := by rw [beq_iff_eq]; exact hs1
    obtain ⟨x, hx⟩ := List.length_eq_one_iff.1 (show (sy ws).length = 1 by rw [← HSZ.out]; exact hs1)
    have hlv : lv ws = [x] := by
      have := lv_perm ws
      rw [hx] at this
      exact List.perm_singleton.1 this
    have hxn : x < n := by rw [HN.out]; exact (sy_lt (show x ∈ sy ws by rw [hx]; simp)).1
    have cs := HRS4.out.at (i := 0) (by rw [hlv]; simp [zs, up])
    rw [Addr.add_lit, hlv] at cs
    have cs2 : w4.cell? ⟨g, 0, none⟩ = some (.int .i64 (x : Nat)) := by
      rw [show (⟨g, 0 + 0, none⟩ : Addr) = ⟨g, 0, none⟩ from rfl] at cs
      rw [cs]; rfl
    have ca := HAr.out.cell hxn
    have fa := HAr.out.free x
    have HFE : Hid (lens ws lm = (List.replicate n 0).set x 1) := Lib.hid (by rw [few_one hx, HN.out])
    have HA2 := HAr.out.set x (.int .i64 ((1 : Nat) : Int))
    rw [up_set] at HA2
    have HA2 := Lib.hid HA2
    have HB5 := Lib.hid (below_put HB4.out (a := ⟨gL, x, none⟩) (by show w.heap.size ≤ gL; have := HG.out.1; omega) (.int .i64 ((1 : Nat) : Int)))
    have y1 : (0 : Int) ≤ (x : Int) := by omega
    have y2 : (x : Int) < (n : Int) := by omega
    have y3 : (0 : Int) < (sz : Int) := by omega
    clear cs hx hlv hs1
    go_wp2_with fail
    refine bodyPost_ret (v := .tuple #[.slice (some ⟨gL, 0, none⟩) n n, .int .i64 0]) (by simp [results, Try.results24, go_sem]) rfl ?_
    exact ie_mk F.out HLL.out (Nat.le_refl _) (by rw [HFE.out]; exact HA2.out.rd) HB5.out
  have h2 : 2 ≤ sz := by omega
  have u1 : ((sz : Int) == 1) = false := by rw [beq_eq_false_iff_ne]; omega
  have u2 : ((sz : Int) == 0) = false := by rw [beq_eq_false_iff_ne]; omega
  have u3 : (sz == 0) = false := by rw [beq_eq_false_iff_ne]; exact hs0
  have u4 : (sz == 1) = false := by rw [beq_eq_false_iff_ne]; exact hs1
  have hkk : sz ≤ 2 ^ (lm - 1 + 1) := by rw [show lm - 1 + 1 = lm by omega, ← HX0.out]; have := HFU.out; omega
  have HKK := Lib.hid hkk
  have CLV := Lib.hid (levels_any ws p c n g sz cap lm w4 HN.out HOK.out HSL.out.symm h2 hl1.1 hl1.2 (HP.out.below HB4.out) HRS4.out)
  have CCO : Hid (∀ (ga cap : Nat) (gs : List (Nat × Nat)) (W : World), gs.length = lm → Rd W (some ⟨ga, 0, none⟩) (ovs (wf ws) (lv ws) gs) → LvsAt W (wf ws) (lv ws) gs → Calls Try.prog 56 #[.slice (some ⟨ga, 0, none⟩) lm cap, .int .i64 (sz : Nat)] W fun e w' => ∃ g c, e = .returned (.slice (some ⟨g, 0, none⟩) sz c) ∧ W.heap.size ≤ g ∧ Rd w' (some ⟨g, 0, none⟩) (zs (up ((List.range sz).map fun i => len (wf ws) (lv ws) (lm - 1) ((lv ws).getD i 0)))) ∧ Below W.heap.size W w') :=
    Lib.hid (fun ga cap gs W a1 a2 a3 => counts_any ws ga cap sz lm gs W HSL.out.symm h2 (by omega) hl1.1 hl1.2 a1 HKK.out a2 a3)
  have HTOLD : Hid (told n (lv ws) (len (wf ws) (lv ws) (lm - 1)) sz = lens ws lm) := Lib.hid (by
    have := told_all (ws := ws) (lim := lm) (by rw [HSL.out]; exact h2) (by rw [HSL.out]; exact HKK.out)
    rw [HSL.out, ← HN.out] at this
    exact this)
  obtain ⟨f, hf⟩ : ∃ f, f = len (wf ws) (lv ws) (lm - 1) := ⟨_, rfl⟩
  rw [← hf] at CCO HTOLD
  have HA0 : Hid (Arr w4 gL 3 gL n (zs (up (told n (lv ws) f 0)))) := Lib.hid (by rw [told_zero]; exact HAr.out)
  clear hf hs0 hs1 hkk
  go_wp2_with fail
  refine CLV.out.mono ?_
  rintro e w5 ⟨ga, ca, gs, rfl, q1, q2, q3, q4, q5⟩
  have HR5 := Lib.hid q2; have HL5 := Lib.hid q3; have HB5 := Lib.hid q5; have HQ1 := Lib.hid q1
  clear q1 q2 q3 q4 q5 CLV
  go_wp2_with fail
  refine (CCO.out ga ca gs w5 HQ1.out HR5.out HL5.out).mono ?_
  rintro e w6 ⟨gO, cO, rfl, q0, q1, q2⟩
  have HB45 : Hid (Below w4.heap.size w4 w6) := Lib.hid (HB5.out.trans (q2.mono HB5.out.size))
  have HRO := Lib.hid q1
  have HB6 : Hid (Below w.heap.size w w6) := Lib.hid (HB4.out.trans (HB45.out.mono HB4.out.size))
  have HA6 : Hid (Arr w6 gL 3 gL n (zs (up (told n (lv ws) f 0)))) := Lib.hid (HA0.out.below HB45.out)
  have HRS6 : Hid (Rd w6 (some ⟨g, 0, none⟩) (zs (up (lv ws)))) := Lib.hid (HRS4.out.below HB45.out)
  have hgO : gO ≠ gL := by
    have h1 := HAr.out.lt
    have h3 := HB5.out.size
    omega
  clear q0 q1 q2 CCO HB5 HR5 HL5 HA0 HRS4 HAr HB4
  go_wp2_with fail
  go_loopw [48] (fun i wr => ∃ t : Nat, t ≤ sz ∧ i = .int .i64 (t : Nat) ∧ Hid (Arr wr gL 3 gL n (zs (up (told n (lv ws) f t)))) ∧ Hid (Rd wr (some ⟨g, 0, none⟩) (zs (up (lv ws)))) ∧ Hid (Rd wr (some ⟨gO, 0, none⟩) (zs (up ((List.range sz).map fun i => f ((lv ws).getD i 0))))) ∧ Hid (Below w.heap.size w wr)) (fun i _ => sz - (intOf i).toNat)
  case atStart => exact ⟨0, Nat.zero_le _, rfl, HA6, HRS6, HRO, HB6⟩
  case round =>
    clear HA6 HRS6 HRO HB6
    obtain ⟨t, ht, rfl, HA, HRS, HRO, HB⟩ := hrel
    by_cases hlt : t < sz
    · have htl : t < (lv ws).length := by rw [HSL.out]; exact hlt
      have cs := HRS.out.at (i := t) (by simp [zs, up]; exact htl)
      have co := HRO.out.at (i := t) (by simp [zs, up]; exact hlt)
      rw [Addr.add_lit, Nat.zero_add, zup_getD _ _ htl] at cs
      rw [Addr.add_lit, Nat.zero_add, zup_getD _ _ (by simp; exact hlt)] at co
      have hsn : (lv ws)[t] < n := by rw [HN.out]; exact (lv_mem.1 (List.getElem_mem htl)).1
      have hTS := told_succ (m := n) (L := lv ws) (f := f) htl
      obtain ⟨s, hs⟩ : ∃ s, s = (lv ws)[t] := ⟨_, rfl⟩
      have es : (lv ws).getD t 0 = s := by rw [hs]; simp [htl]
      have eo : ((List.range sz).map fun i => f ((lv ws).getD i 0)).getD t 0 = f s := by
        rw [List.getD_eq_getElem?_getD, List.getElem?_map, List.getElem?_range hlt]
        show f ((lv ws).getD t 0) = f s
        rw [es]
      rw [es] at cs
      rw [eo] at co
      rw [← hs] at hsn hTS
      obtain ⟨v, hv⟩ : ∃ v, v = f s := ⟨_, rfl⟩
      rw [← hv] at co hTS
      have ca := HA.out.cell hsn
      have fa := HA.out.free s
      have HA2 := HA.out.set s (.int .i64 (v : Nat))
      rw [up_set, hTS] at HA2
      have HA2 := Lib.hid HA2
      have HRS2 := Lib.hid (rd_other HRS.out (a := ⟨gL, s, none⟩) (fun q e => by cases e; show g ≠ gL; omega) (.int .i64 (v : Nat)))
      have HRO2 := Lib.hid (rd_other HRO.out (a := ⟨gL, s, none⟩) (fun q e => by cases e; exact hgO) (.int .i64 (v : Nat)))
      have HB2 := Lib.hid (below_put HB.out (a := ⟨gL, s, none⟩) (by show w.heap.size ≤ gL; have := HG.out.1; omega) (.int .i64 (v : Nat)))
      have y1 : (0 : Int) ≤ (t : Int) := by omega
      have y2 : (t : Int) < (sz : Int) := by omega
      have y3 : (0 : Int) ≤ (s : Int) := by omega
      have y4 : (s : Int) < (n : Int) := by omega
      clear hs es eo hv hTS htl hlt
      go_wp2_with fail
      go_roundw
      case rel => exact ⟨t + 1, by omega, by go_num, HA2, HRS2, HRO2, HB2⟩
      case measure => simp [intOf]; omega
    · obtain rfl : t = sz := by omega
      have k1 : ¬ (t : Int) < (t : Int) := by omega
      have HAF : Hid (Arr wr gL 3 gL n (zs (up (lens ws lm)))) := Lib.hid (by rw [← HTOLD.out]; exact HA.out)
      go_wp2_with fail
      refine bodyPost_ret (v := .tuple #[.slice (some ⟨gL, 0, none⟩) n n, .int .i64 0]) (by simp [results, Try.results24, go_sem]) rfl ?_
      exact ie_mk F.out HLL.out (Nat.le_refl _) HAF.out.rd HB.out
theorem plengths_any (ws : List Nat) (lim : Int) (p : Option Addr) (c : Nat) (w : World) (hp : Rd w p (nums ws)) (hl : ws.length ≤ 17592186044416) :
    Calls Try.prog 24 #[.slice p ws.length c, .int .i64 lim] w (IE w (lenR ws lim)) := by
  cases hb : okL ws lim with
  | false => exact plengths_bad ws lim p c w hp hl hb
  | true =>
    have hb2 := hb
    unfold okL at hb2
    simp only [Bool.and_eq_true, decide_eq_true_eq] at hb2
    obtain ⟨lm, rfl⟩ := Int.eq_ofNat_of_zero_le (show 0 ≤ lim by omega)
    exact plengths_ok ws lm ws.length p c w rfl hp hb
end Go.Proofs.Ytjnehpkkkmicfaa.Ps
namespace Go.Proofs.Ytjnehpkkkmicfaa.Pk
open Go.RowKit Go.Lib Rw Ls Od _root_.Go.Proofs.Ytjnehpkkkmicfaa.Nm

/-- ints in memory, how many being a number -/
def IEn (W : World) (n : Nat) (L : List Nat) (r : Int) (e : Ending) (w' : World) : Prop := ∃ (q : Option Addr) (c : Nat), e = .returned (.tuple #[.slice q n c, .int .i64 r]) ∧ n ≤ c ∧ Rd w' q (zs (up L)) ∧ Below W.heap.size W w'
theorem ien_of {W : World} {n : Nat} {o : List Nat × Int} {L : List Nat} {r : Int} (h : o = (L, r)) (hn : L.length = n) {f : FuncId} {a : Array Value} {P : Program} (hc : Calls P f a W (IE W o)) : Calls P f a W (IEn W n L r) := by subst h; subst hn; exact hc
theorem plengths_any (ws : List Nat) (lim : Int) (p : Option Addr) (c : Nat) (w : World) (hp : Rd w p (nums ws)) (hl : ws.length ≤ 17592186044416) :
    Calls Try.prog 24 #[.slice p ws.length c, .int .i64 lim] w (IE w (lenR ws lim)) := Ps.plengths_any ws lim p c w hp hl
theorem pcost_any (ws : List Nat) (ls : List Int) (p q : Option Addr) (c d : Nat) (w : World) (hp : Rd w p (nums ws)) (hq : Rd w q (zs ls)) (hl : ws.length ≤ 17592186044416) (hm : ls.length ≤ 17592186044416) :
    Calls Try.prog 31 #[.slice p ws.length c, .slice q ls.length d] w fun e w' => e = .returned (.tuple #[.int .u64 ((costR ws ls).1 : Nat), .int .i64 (costR ws ls).2]) ∧ Below w.heap.size w w' :=
  (Ps.pcostw_any ws ls p q c d w hp hq hl hm).mono fun _ _ ⟨h1, h2⟩ => ⟨h1, h2 ▸ Below.refl _ _⟩
theorem proom_any (ls : List Int) (lim : Int) (q : Option Addr) (d : Nat) (w : World) (hq : Rd w q (zs ls)) (hm : ls.length ≤ 17592186044416) (hlim : -9223372036854775808 ≤ lim ∧ lim ≤ 9223372036854775807) :
    Calls Try.prog 37 #[.slice q ls.length d, .int .i64 lim] w fun e w' => e = .returned (.tuple #[.int .i64 (roomR ls lim).1, .int .i64 (roomR ls lim).2]) ∧ Below w.heap.size w w' :=
  (Ps.proomw_any ls lim q d w hq hm hlim).mono fun _ _ ⟨h1, h2⟩ => ⟨h1, h2 ▸ Below.refl _ _⟩
end Go.Proofs.Ytjnehpkkkmicfaa.Pk
