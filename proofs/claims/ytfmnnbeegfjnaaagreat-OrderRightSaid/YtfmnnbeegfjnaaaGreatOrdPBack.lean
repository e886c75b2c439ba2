/- The walk of slices.Backward of bytes: places from the last one on, and what lies there then. -/
import Derived.Test.YtfmnnbeegfjnaaaGreatKpC
namespace Go.Proofs.YtfmnnbeegfjnaaaGreat.Od
open Go.RowKit Go.Lib Rw Ls _root_.Go.Proofs.YtfmnnbeegfjnaaaGreat.Nm
attribute [local go_sem] Oper.semAt_some wide_fn

/-- the iterator's own box lies as it lay, and the first cells of one block are bytes still -/
def KpU (Bx g n : Nat) (w w' : World) : Prop := (∀ v, w.cell? ⟨Bx, 0, none⟩ = some v → w'.cell? ⟨Bx, 0, none⟩ = some v) ∧ ∀ j, j < n → (∃ z : Int, w.cell? ⟨g, j, none⟩ = some (.int .u8 z)) → ∃ z : Int, w'.cell? ⟨g, j, none⟩ = some (.int .u8 z)
theorem KpU.refl (Bx g n : Nat) (w : World) : KpU Bx g n w w := ⟨fun _ h => h, fun _ _ h => h⟩
theorem KpU.trans {Bx g n : Nat} {a b c : World} (h : KpU Bx g n a b) (k : KpU Bx g n b c) : KpU Bx g n a c := ⟨fun v hv => k.1 v (h.1 v hv), fun j hj hz => k.2 j hj (h.2 j hj hz)⟩
theorem cell_putObj (W : World) (l : Nat) (o o' : Obj) (h : W.heap[l]? = some o) (hc : o.isCells = false) (a : Addr) (v : Value) (hz : W.cell? a = some v) : (W.putObj l o').cell? a = some v := by
  by_cases e : a.block = l
  · unfold World.cell? at hz
    rw [e, h] at hz
    cases o <;> first | (cases hc; done) | (cases hz)
  · unfold World.cell? at hz ⊢
    rw [World.putObj_heap_other (by first | exact e | exact fun h => e h.symm)]
    exact hz
theorem KpU.put {Bx g n : Nat} (W : World) (l : Nat) (o o' : Obj) (h : W.heap[l]? = some o) (hc : o.isCells = false) : KpU Bx g n W (W.putObj l o') :=
  ⟨fun v hv => cell_putObj W l o o' h hc _ v hv, fun _ _ ⟨z, hz⟩ => ⟨z, cell_putObj W l o o' h hc _ _ hz⟩⟩
set_option maxRecDepth 100000 in
set_option maxHeartbeats 4000000 in
theorem back1_in (lp Bx g n cap : Nat) (J Jx : List (Nat × Int) → World → Prop) (W : World) (hn : n ≤ 4096)
    (hY : ∀ pre x W, J pre W → pre.length < n → YieldAt Fence.wide (3 - 1) Tryz.prog lp #[.int .i64 ((n - 1 - x.1 : Nat) : Int), .int .u8 x.2] W fun e W' =>
      (e = .returned (.bool true) ∧ J (pre ++ [x]) W' ∧ KpU Bx g n W W') ∨ (e = .returned (.bool false) ∧ Jx (pre ++ [x]) W'))
    (h1 : W.cell? ⟨Bx, 0, none⟩ = some (.slice (some ⟨g, 0, none⟩) n cap)) (hu : ∀ j, j < n → ∃ z : Int, W.cell? ⟨g, j, none⟩ = some (.int .u8 z)) (h0 : J [] W) :
    CallsIn Fence.wide 3 Tryz.prog 67 #[.func (.yield lp) #[] #[], .pointer (some ⟨Bx, 0, none⟩)] W fun e W' => (∃ v, e = .returned v) ∧
      ((∃ ys : List (Nat × Int), ys.map (·.1) = List.range n ∧ J ys W') ∨ (∃ pre : List (Nat × Int), pre.map (·.1) <+: List.range n ∧ Jx pre W')) := by
  have HY := Lib.hid hY; have HU := Lib.hid hu; have H0 := Lib.hid h0; have C1 := Lib.hid h1
  have K0 : Hid (KpU Bx g n W W) := Lib.hid (KpU.refl Bx g n W)
  have vw : IntKind.i64.wrap ((n : Int) - 1) = (n : Int) - 1 := IntWalk.i64_in _ (by omega)
  clear hY hu h0
  refine callsIn_of_wp Tryz.func67 rfl trivial ?_ rfl
  simp only [Tryz.ntmps67, List.size_toArray, List.length_cons, List.length_nil, Nat.reduceAdd, Nat.reduceSub, Array.replicate_succ, Array.replicate_zero, List.push_toArray, List.append_toArray, List.nil_append, List.cons_append]
  gi_wp2_with fail
  gi_loopw [3] (fun i wr => ∃ (k r : Nat) (ys : List (Nat × Int)), k + r = n ∧ i = .int .i64 ((r : Int) - 1) ∧ Hid (ys.map (·.1) = List.range k) ∧ Hid (J ys wr) ∧ Hid (KpU Bx g n W wr)) (fun i _ => (intOf i + 1).toNat)
  case atStart => exact ⟨0, n, [], by omega, rfl, Lib.hid rfl, H0, K0⟩
  case round =>
    clear K0 H0 h1
    obtain ⟨k, r, ys, hk, rfl, HM, HJk, HK⟩ := hrel
    cases r with
    | succ m =>
      have em : (((m + 1 : Nat) : Int) - 1) = (m : Int) := by omega
      rw [em]
      have m0 : (0 : Int) ≤ (m : Int) := by omega
      have m1 : (m : Int) < (n : Int) := by omega
      have mw : IntKind.i64.wrap ((m : Int) - 1) = (m : Int) - 1 := IntWalk.i64_in _ (by omega)
      have cb := HK.out.1 _ C1.out
      obtain ⟨z, cz⟩ := HK.out.2 m (by omega) (HU.out m (by omega))
      have HL : Hid (ys.length = k) := Lib.hid (by have := congrArg List.length HM.out; simpa using this)
      obtain ⟨fn, tmps, assign, body, hy, hY2⟩ := HY.out ys (k, z) wr HJk.out (by rw [HL.out]; omega)
      have ek : n - 1 - k = m := by omega
      simp only [ek] at hy
      have HT : Hid ((ys ++ [(k, z)]).map (·.1) = List.range (k + 1)) := Lib.hid (by rw [List.map_append, HM.out, List.range_succ]; rfl)
      have HK2 : Hid (k + 1 + m = n) := Lib.hid (by omega)
      have HKn : Hid (k + 1 ≤ n) := Lib.hid (by omega)
      clear hk em ek
      gi_wp2
      refine hY2.mono ?_
      rintro e w3 (⟨rfl, hJ3, hk3⟩ | ⟨rfl, hJx3⟩)
      · gi_wp2
        go_roundw
        case rel => exact ⟨k + 1, m, _, HK2.out, rfl, HT, Lib.hid hJ3, Lib.hid (HK.out.trans hk3)⟩
        case measure => simp [intOf]
      · gi_wp2
        refine bodyPost_ret (results_none rfl _ _ _) rfl ?_
        exact ⟨⟨_, rfl⟩, .inr ⟨_, by rw [HT.out]; exact range_pre HKn.out, hJx3⟩⟩
    | zero =>
      have k1 : ¬ ((0 : Int) ≤ ((0 : Nat) : Int) - 1) := by omega
      obtain rfl : k = n := by omega
      gi_wp2
      go_end0
      exact ⟨⟨_, rfl⟩, .inl ⟨_, HM.out, HJk.out⟩⟩
/-- Backward's value, as a contract for loops -/
theorem back_stops (Bx g n cap : Nat) (w : World) (hn : n ≤ 4096) (h1 : w.cell? ⟨Bx, 0, none⟩ = some (.slice (some ⟨g, 0, none⟩) n cap)) (hu : ∀ j, j < n → ∃ z : Int, w.cell? ⟨g, j, none⟩ = some (.int .u8 z)) :
    SeqStopsK Fence.wide 3 Tryz.prog 67 #[.pointer (some ⟨Bx, 0, none⟩)] (fun x : Nat × Int => #[Value.int .i64 ((n - 1 - x.1 : Nat) : Int), .int .u8 x.2]) (KpU Bx g n) (fun ys => ys.map (·.1) = List.range n) (fun pre => pre.map (·.1) <+: List.range n) n w :=
  fun lp J Jx W hW _ _ hY h0 => back1_in lp Bx g n cap J Jx W hn hY ((hW.cell (p := ⟨Bx, 0, none⟩) (cell_lt h1)).trans h1)
    (fun j hj => by obtain ⟨z, hz⟩ := hu j hj; exact ⟨z, (hW.cell (p := ⟨g, j, none⟩) (cell_lt hz)).trans hz⟩) h0
theorem back_enters : ∀ args w, (callFunc 67 args).run Tryz.prog w = .ok (.enter 67 args) w := enters_of Tryz.func67 (by kernel_rfl) rfl
theorem backward_any (p : Option Addr) (n c : Nat) (w : World) :
    Calls Tryz.prog 39 #[.slice p n c] w fun e w' => e = .returned (.func (.func 67) #[] #[.pointer (some ⟨w.heap.size, 0, none⟩)]) ∧ w' = w.alloc (.cells #[.slice p n c] 56) := by
  go_enter Tryz.func39, Tryz.ntmps39
  go_wp2
  go_ret
  exact ⟨rfl, rfl⟩
end Go.Proofs.YtfmnnbeegfjnaaaGreat.Od
