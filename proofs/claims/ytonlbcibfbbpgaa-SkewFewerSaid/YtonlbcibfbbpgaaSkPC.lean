/- slices.Values, AppendSeq, Collect and SortedFunc at skew's triples. -/
import Derived.Test.YtonlbcibfbbpgaaSkPB
import Derived.Test.YtonlbcibfbbpgaaXSeq
import Derived.Test.YtonlbcibfbbpgaaShelfC
namespace Go.Proofs.Ytonlbcibfbbpgaa.Sk
open Go.RowKit Go.Lib Go.Sort Rw Ls Od _root_.Go.Proofs.Ytonlbcibfbbpgaa.Nm
attribute [local go_sem] Oper.semAt_some

/-- the triples' cells -/
def fT (L : List T3) : List Value := L.flatMap encT
theorem fT_length : ∀ (L : List T3), (fT L).length = 3 * L.length
  | [] => rfl
  | t :: L => by
    have := fT_length L
    unfold fT at this ⊢
    rw [List.flatMap_cons, List.length_append, this, List.length_cons]
    show 3 + _ = _
    omega
theorem fT_append (L M : List T3) : fT (L ++ M) = fT L ++ fT M := by unfold fT; rw [List.flatMap_append]
theorem fT_one (t : T3) : fT [t] = encT t := by simp [fT]
theorem fT_at : ∀ (L : List T3) (i j : Nat) (hi : i < L.length), j < 3 → (fT L)[3 * i + j]? = (encT L[i])[j]?
  | t :: L, 0, j, _, hj => by
    unfold fT
    rw [List.flatMap_cons, Nat.mul_zero, Nat.zero_add, List.getElem?_append_left (by show j < 3; exact hj)]
    rfl
  | t :: L, i + 1, j, hi, hj => by
    have := fT_at L i j (by simpa using hi) hj
    unfold fT at this ⊢
    rw [List.flatMap_cons, List.getElem?_append_right (by show 3 ≤ _; omega)]
    show (L.flatMap encT)[3 * (i + 1) + j - 3]? = _
    rw [show 3 * (i + 1) + j - 3 = 3 * i + j by omega, this]
    rfl
/-- one of them is loaded -/
theorem rdT_cells {w : World} {p : Option Addr} {L : List T3} (h : Rd w p (fT L)) {i : Nat} (hi : i < L.length) : ∃ a, p = some a ∧ a.block < w.heap.size ∧ ∀ j v, (encT L[i])[j]? = some v → w.cell? (a.add (3 * i + j)) = some v := by
  obtain ⟨a, rfl, hl, _⟩ := h (3 * i) (by rw [fT_length]; omega)
  refine ⟨a, rfl, hl, fun j v hj => ?_⟩
  have hj3 : j < 3 := by
    have h2 := (List.getElem?_eq_some_iff.1 hj).1
    exact h2
  obtain ⟨a', e, _, hc⟩ := h (3 * i + j) (by rw [fT_length]; omega)
  cases e
  rw [hc, List.getD_eq_getElem?_getD, fT_at L i j hi hj3, hj]
  rfl
/-- the three cells, as the walk spells them -/
def At3 (w : World) (a : Addr) (t : T3) : Prop := w.cell? a = some (.int .u64 (t.1 : Nat)) ∧ w.cell? ⟨a.block, a.off + 1, none⟩ = some (.int .u64 (t.2.1 : Nat)) ∧ w.cell? ⟨a.block, a.off + 2, none⟩ = some (.int .u64 (t.2.2 : Nat))
theorem rdT_at {w : World} {p : Option Addr} {L : List T3} (h : Rd w p (fT L)) {i : Nat} (hi : i < L.length) : ∃ a, p = some a ∧ a.block < w.heap.size ∧ At3 w (a.add (i * 3)) L[i] := by
  obtain ⟨a, e, hl, hc⟩ := rdT_cells h hi
  have e1 : ∀ j, 0 < j → (⟨(a.add (i * 3)).block, (a.add (i * 3)).off + j, none⟩ : Addr) = a.add (3 * i + j) := fun j hj => by
    by_cases h0 : i = 0
    · subst h0
      simp [Addr.add]; omega
    · simp only [Addr.add]
      rw [if_neg (by omega), if_neg (by omega)]
      simp only [Addr.mk.injEq, and_true, true_and]
      omega
  refine ⟨a, e, hl, ?_, ?_, ?_⟩
  · have := hc 0 _ rfl
    rw [Nat.add_zero, Nat.mul_comm] at this
    exact this
  · rw [e1 1 (by omega)]; exact hc 1 _ rfl
  · rw [e1 2 (by omega)]; exact hc 2 _ rfl
theorem At3.below {w w' : World} {a : Addr} {t : T3} {n0 : Nat} (h : At3 w a t) (hb : RowKit.Below n0 w w') (ha : a.block < n0) : At3 w' a t :=
  ⟨(hb.cell ha).trans h.1, (hb.cell (p := ⟨a.block, a.off + 1, none⟩) ha).trans h.2.1, (hb.cell (p := ⟨a.block, a.off + 2, none⟩) ha).trans h.2.2⟩
set_option maxRecDepth 100000 in
set_option maxHeartbeats 2000000 in
theorem values1_in (l Bs n0 c : Nat) (p : Option Addr) (L : List T3) (hlen : L.length ≤ 1000000000) (hp : 0 < L.length → ∀ a, p = some a → a.block < n0) (J Jx : List T3 → World → Prop)
    (hY : ∀ pre x W, J pre W → pre.length < L.length → YieldAt Fence.wide (3 - 1) Try.prog l #[.agg (encT x).toArray] W fun e W' =>
      (e = .returned (.bool true) ∧ J (pre ++ [x]) W' ∧ RowKit.Below n0 W W') ∨ (e = .returned (.bool false) ∧ Jx (pre ++ [x]) W'))
    (W : World) (hn0 : n0 ≤ W.heap.size) (hJ : AbidesFrom W.heap.size J) (hB : W.cell? ⟨Bs, 0, none⟩ = some (.slice p L.length c)) (hr : Rd W p (fT L)) (h0 : J [] W) :
    CallsIn Fence.wide 3 Try.prog 58 #[.func (.yield l) #[] #[], .pointer (some ⟨Bs, 0, none⟩)] W fun e W' => (∃ v, e = .returned v) ∧
      ((∃ ys, ys = L ∧ J ys W') ∨ (∃ pre, pre <+: L ∧ Jx pre W')) := by
  obtain ⟨n, hn⟩ : ∃ n, n = L.length := ⟨_, rfl⟩
  rw [← hn] at hB hlen
  have HN := Lib.hid hn
  have HR := Lib.hid hr
  clear hn hr
  refine callsIn_of_wp Try.func58 rfl trivial ?_ rfl
  simp only [Try.ntmps58, List.size_toArray, List.length_cons, List.length_nil, Nat.reduceAdd, Nat.reduceSub, Array.replicate_succ, Array.replicate_zero, List.push_toArray, List.append_toArray, List.nil_append, List.cons_append]
  gi_wp2
  gi_loopw [7] (fun i wr => ∃ k : Nat, k ≤ n ∧ i = .int .i64 k ∧ J (L.take k) wr ∧ RowKit.Below n0 W wr) (fun i _ => n - (intOf i).toNat)
  case atStart => exact ⟨0, Nat.zero_le _, rfl, h0, RowKit.Below.refl _ _⟩
  case round =>
    obtain ⟨k, hk, rfl, hJs, hnx⟩ := hrel
    by_cases hlt : k < n
    · have hkl : k < L.length := by rw [← HN.out]; exact hlt
      obtain ⟨a, rfl, hab, hcx⟩ := rdT_at HR.out hkl
      have hld := hcx.below hnx (by rw [add_block]; exact hp (by omega) a rfl)
      have ht : L.take (k + 1) = L.take k ++ [L[k]] := List.take_succ_eq_append_getElem hkl
      have HT := Lib.hid ht
      obtain ⟨x, hx⟩ : ∃ x, x = L[k] := ⟨_, rfl⟩
      rw [← hx] at hld HT
      obtain ⟨x1, x2, x3⟩ := x
      have hJ2 := hJ _ _ _ none hJs (World.grownBy_alloc wr (.cells #[.int .u64 (x1 : Nat), .int .u64 (x2 : Nat), .int .u64 (x3 : Nat)] 50) none) (fun r e => by cases e)
      have hn2 := hnx.alloc (by have := hnx.size; omega) (.cells #[.int .u64 (x1 : Nat), .int .u64 (x2 : Nat), .int .u64 (x3 : Nat)] 50)
      obtain ⟨fn, tmps, assign, body, hy, hY2⟩ := hY _ (x1, x2, x3) (wr.alloc (.cells #[.int .u64 (x1 : Nat), .int .u64 (x2 : Nat), .int .u64 (x3 : Nat)] 50)) hJ2 (by rw [List.length_take]; omega)
      have k1 : (k : Int) < (n : Int) := by omega
      have k0 : (0 : Int) ≤ (k : Int) := by omega
      simp only [encT] at hy
      obtain ⟨l1, l2, l3⟩ := hld
      clear hx ht hcx
      gi_wp2
      refine hY2.mono ?_
      rintro e W3 (⟨rfl, hJ3, hk3⟩ | ⟨rfl, hJx3⟩)
      · gi_wp2
        go_roundw
        case rel => exact ⟨k + 1, by omega, by first | rfl | go_num | (congr 1; omega), by rw [HT.out]; exact hJ3, hn2.trans hk3⟩
        case measure => simp [intOf]; omega
      · gi_wp2
        refine bodyPost_ret (results_none rfl _ _ _) rfl ?_
        exact ⟨⟨_, rfl⟩, .inr ⟨_, by rw [← HT.out]; exact List.take_prefix _ _, hJx3⟩⟩
    · obtain rfl : k = n := by omega
      have k1 : ¬ (k : Int) < (k : Int) := by omega
      gi_wp2
      go_end0
      rw [List.take_of_length_le (by rw [← HN.out]; exact Nat.le_refl _)] at hJs
      first | exact ⟨⟨_, rfl⟩, .inl hJs⟩ | exact ⟨⟨_, rfl⟩, .inl ⟨_, rfl, hJs⟩⟩
theorem values_stops (Bs n0 c : Nat) (p : Option Addr) (L : List T3) (hlen : L.length ≤ 1000000000) (w : World) (hn0 : n0 ≤ w.heap.size) (hBs : Bs < w.heap.size) (hp : 0 < L.length → ∀ a, p = some a → a.block < n0)
    (hc : w.cell? ⟨Bs, 0, none⟩ = some (.slice p L.length c)) (hr : Rd w p (fT L)) :
    SeqStopsK Fence.wide 3 Try.prog 58 #[.pointer (some ⟨Bs, 0, none⟩)] (fun x : T3 => #[Value.agg (encT x).toArray]) (RowKit.Below n0) (fun ys => ys = L) (fun pre => pre <+: L) L.length w :=
  fun l J Jx W hW hJ _ hY h0 => values1_in l Bs n0 c p L hlen hp J Jx hY W (Nat.le_trans hn0 hW.size) hJ ((hW.cell (p := ⟨Bs, 0, none⟩) hBs).trans hc) (hr.below hW) h0
theorem values_enters : ∀ args w, (callFunc 58 args).run Try.prog w = .ok (.enter 58 args) w := enters_of Try.func58 (by kernel_rfl) rfl
theorem info_t : (Try.prog.info? 50).map (fun i => (i.zero, i.size, i.bytes)) = some (some (.agg #[.int .u64 0, .int .u64 0, .int .u64 0]), 3, 24) := by kernel_rfl
theorem encT_one (x : T3) : ∀ u ∈ encT x, u.oneCell' = true := by intro u hu; simp [encT] at hu; rcases hu with rfl | rfl | rfl <;> rfl
theorem new3_cells (W : World) (x : T3) (ty : TypeId) : ∀ j u, (encT x)[j]? = some u → (W.alloc (.cells (encT x).toArray ty)).cell? ((⟨W.heap.size, 0, none⟩ : Addr).add j) = some u := fun j u hj => by
  rw [Addr.add_lit, Nat.zero_add, World.cell?_alloc_at (w := W) _ _ W.heap.size j rfl, ← hj]
  simp
/-- what a round's variable is: a box of three cells -/
def AxT (gf : Nat) (lb : Array Value) (hB : Nat) (x : T3) (a : Act) (W : World) : Prop := ∃ q, a = { tmps := #[.slice none 0 0, .func (.func gf) #[] lb, .pointer (some ⟨hB, 0, none⟩), undef, .slice none 0 0, .pointer (some ⟨q, 0, none⟩), .func (.func gf) #[] lb, .agg (encT x).toArray, undef, undef, undef, undef, undef], defers := [] } ∧ W.heap[q]? = some (.cells (encT x).toArray 50 (0, 0))
set_option maxRecDepth 100000 in
set_option maxHeartbeats 4000000 in
theorem appendSeq_in (L : List T3) (hl : L.length ≤ 1000000000) (n0 : Nat) (gf : Nat) (lb : Array Value) (w : World) (hn0 : n0 ≤ w.heap.size) (eg : ∀ args w, (callFunc gf args).run Try.prog w = .ok (.enter gf args) w)
    (hs : ∀ W, RowKit.Below w.heap.size w W → SeqStopsK Fence.wide 3 Try.prog gf lb (fun x : T3 => #[Value.agg (encT x).toArray]) (RowKit.Below n0) (fun xs => xs = L) (fun pre => pre <+: L) L.length W) :
    CallsIn Fence.wide 4 Try.prog 65 #[.slice none 0 0, .func (.func gf) #[] lb] w fun e W' => ∃ v, e = .returned v ∧ W'.ownsRow w.heap.size 50 3 v L.length (fT L) ∧ RowKit.Below w.heap.size w W' := by
  obtain ⟨i0, hi, hz0, hz1, hz2⟩ := info_parts info_t
  refine callsIn_of_wp_marks Try.func65 rfl trivial ?_ rfl
  simp only [Try.ntmps65, List.size_toArray, List.length_cons, List.length_nil, Nat.reduceAdd, Nat.reduceSub, Array.replicate_succ, Array.replicate_zero, List.push_toArray, List.append_toArray, List.nil_append, List.cons_append]
  gi_wp2
  have bO := Boxed.new w 47 (.slice none 0 0)
  have hB0 : RowKit.Below w.heap.size w (w.alloc (.cells #[.slice none 0 0] 47)) := (RowKit.Below.refl _ w).alloc (Nat.le_refl _) _
  refine wpIn_rangeFunc_ownH rfl (by omega) (gf := gf) (lb := lb) rfl trivial eg (hs _ hB0) belowK_t (belowK_b (by simp; omega)) (RowKit.Below.refl _ _) (fun _ => rfl)
    (fun pre W => (∃ v, Boxed W w.heap.size 47 v ∧ W.ownsRow w.heap.size 50 3 v pre.length (fT pre) ∧ True) ∧ RowKit.Below w.heap.size w W)
    (fun _ _ _ => False)
    (OwnFrom.and (Own.from (holdsRow_own w.heap.size w.heap.size 47 50 3 (fun pre : List T3 => pre.length) (fun pre => fT pre) (fun _ _ => True)) _) (ownFrom_below (Nat.le_refl _) (by simp)))
    (fun _ _ _ _ _ hs _ _ => hs)
    ⟨⟨_, bO, World.ownsRow_nil _ _ _ _, trivial⟩, hB0⟩
    (AxT gf lb w.heap.size)
    (fun x a' _ W W' row ⟨q, e1, e2⟩ hg hr => ⟨q, e1, (hg.block q (Array.getElem?_eq_some_iff.1 e2).1 (fun e => by
      obtain ⟨_, o, ho, hc⟩ := hr q e.symm
      rw [e2] at ho; cases ho; cases hc)).trans e2⟩) ?assign ?body ?done ?stop
  case assign =>
    intro l pre x W K hI hK
    obtain ⟨⟨v, hv, hrow, _⟩, hB⟩ := hI
    obtain ⟨x1, x2, x3⟩ := x
    simp only [encT] at hK ⊢
    gi_wp2
    exact hK _ _ (KeepsFrom.of_grownBy (World.grownBy_alloc W _ none) (fun j e => by cases e)) ((RowKit.Below.refl _ W).alloc (Nat.le_trans hn0 hB.size) _) ⟨⟨v, hv.alloc _, hrow.alloc _, trivial⟩, hB.alloc hB.size _⟩ ⟨_, rfl, World.alloc_heap_new W _⟩
  case body =>
    rintro l pre x a' W _ _ ⟨⟨v, hv, hrow, _⟩, hB⟩ ⟨q, rfl, hq⟩ hlt
    have hc := hv.cell
    have hx := new3_cells W x 50
    have ho := encT_one x
    have e0 : fT (pre ++ [x]) = fT pre ++ encT x := by rw [fT_append, fT_one]
    obtain ⟨x1, x2, x3⟩ := x
    simp only [encT] at hq hx ho e0 ⊢
    have q0 : W.cell? ⟨q, 0, none⟩ = some (.int .u64 x1) := by simp [World.cell?, hq]
    have q1 : W.cell? ⟨q, 1, none⟩ = some (.int .u64 x2) := by simp [World.cell?, hq]
    have q2 : W.cell? ⟨q, 2, none⟩ = some (.int .u64 x3) := by simp [World.cell?, hq]
    gi_wp2_with (gi_at_builtin; refine wpListIn_append_own _ rfl _ _ 47 rfl w.heap.size 50 i0 (.agg #[.int .u64 0, .int .u64 0, .int .u64 0]) 3 24 Try.underlying47 hi hz0 hz1 hz2 rfl (by decide) _ _ _ rfl (hrow.alloc _) ⟨W.heap.size, 0, none⟩ 1 1 [.int .u64 x1, .int .u64 x2, .int .u64 x3] rfl rfl hx ho (by unfold maxLen; omega) (by omega) (by have := hB.size; simp; omega) ?_; intro v' w1 hown' hgrow _; obtain ⟨g', cap', rfl⟩ := ownsRow_succ hown'; obtain ⟨hv1, hv2, hr2, hk2, hb2⟩ := hv.appended (by decide) hrow hB.size (Nat.le_refl _) hown' hgrow; have hc1 := hv1.cell; have hf1 := hv1.frozen)
    exact ⟨hk2.from _, hb2.mono hn0, ⟨_, hv2, by rw [e0]; simpa using hr2, trivial⟩, hB.trans hb2⟩
  case done =>
    rintro D ys W hD rfl ⟨⟨v, hv, hrow, _⟩, hB⟩ hK
    have hc := hv.cell
    gi_wp2
    refine ⟨by simp, .inl ⟨_, _, rfl, run_takeDeferred hK, ?_⟩⟩
    exact ⟨_, results_tmp rfl _ _ _, v, rfl, ownsRow_putObj hrow _ hK rfl, hB.trans (belowK_b (w := w) (Nat.le_refl _) W D _ _ (by simp at hD; omega) hK rfl rfl)⟩
  case stop =>
    rintro D c pre W _ _ h _
    exact h.elim
theorem collect_any (L : List T3) (hl : L.length ≤ 1000000000) (n0 : Nat) (gf : Nat) (lb : Array Value) (w : World) (hn0 : n0 ≤ w.heap.size) (eg : ∀ args w, (callFunc gf args).run Try.prog w = .ok (.enter gf args) w)
    (hs : ∀ W, RowKit.Below w.heap.size w W → SeqStopsK Fence.wide 3 Try.prog gf lb (fun x : T3 => #[Value.agg (encT x).toArray]) (RowKit.Below n0) (fun xs => xs = L) (fun pre => pre <+: L) L.length W) :
    Calls Try.prog 56 #[.func (.func gf) #[] lb] w fun e W' => ∃ v, e = .returned v ∧ W'.ownsRow w.heap.size 50 3 v L.length (fT L) ∧ RowKit.Below w.heap.size w W' := by
  have HC := callsIn_wide.1 (appendSeq_in L hl n0 gf lb w hn0 eg hs)
  clear hs eg
  go_enter Try.func56, Try.ntmps56
  go_wp2_with (go_at_call 65; refine HC.mono ?_; rintro e w' ⟨v, rfl, hrow, hb⟩)
  go_ret
  exact ⟨v, rfl, hrow, hb⟩
end Go.Proofs.Ytonlbcibfbbpgaa.Sk
