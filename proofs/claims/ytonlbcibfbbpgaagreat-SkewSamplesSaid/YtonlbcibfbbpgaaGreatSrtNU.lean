/- slices.Values, Collect, Sort and Sorted at uint64. BinarySearch, Compact of none, Values and ranks at uint64. -/
import Derived.Test.YtonlbcibfbbpgaaGreatSrtMU
import Derived.Test.YtonlbcibfbbpgaaGreatXSeq
import Derived.Test.YtonlbcibfbbpgaaGreatOrdS
namespace Go.Proofs.YtonlbcibfbbpgaaGreat.StU
open Go.RowKit Go.Lib Go.Sort Rw St Ls Od
attribute [local go_sem] Oper.semAt_some

/-- the numbers as they lie -/
def es (L : List Int) : List Value := L.map (Value.int .u64)
theorem es_length (L : List Int) : (es L).length = L.length := by simp [es]
theorem es_getD (L : List Int) (k : Nat) (hk : k < L.length) : (es L).getD k (.bool false) = .int .u64 L[k]! := by
  simp [es, List.getD_eq_getElem?_getD, hk]
theorem es_snoc (L : List Int) (x : Int) : es (L ++ [x]) = es L ++ [.int .u64 x] := by simp [es]
set_option maxRecDepth 100000 in
set_option maxHeartbeats 2000000 in
theorem values1_in (l Bs n0 c : Nat) (p : Option Addr) (L : List Int) (hlen : L.length ≤ 1000000000) (hp : 0 < L.length → ∀ a, p = some a → a.block < n0) (J Jx : List Int → World → Prop)
    (hY : ∀ pre x W, J pre W → pre.length < L.length → YieldAt Fence.wide (3 - 1) Tryz.prog l #[.int .u64 x] W fun e W' =>
      (e = .returned (.bool true) ∧ J (pre ++ [x]) W' ∧ RowKit.Below n0 W W') ∨ (e = .returned (.bool false) ∧ Jx (pre ++ [x]) W'))
    (W : World) (hB : W.cell? ⟨Bs, 0, none⟩ = some (.slice p L.length c)) (hr : Rd W p (es L)) (h0 : J [] W) :
    CallsIn Fence.wide 3 Tryz.prog 63 #[.func (.yield l) #[] #[], .pointer (some ⟨Bs, 0, none⟩)] W fun e W' => (∃ v, e = .returned v) ∧
      ((∃ ys, ys = L ∧ J ys W') ∨ (∃ pre, pre <+: L ∧ Jx pre W')) := by
  obtain ⟨n, hn⟩ : ∃ n, n = L.length := ⟨_, rfl⟩
  rw [← hn] at hB hlen
  have HN := Lib.hid hn
  have HR := Lib.hid hr
  clear hn hr
  refine callsIn_of_wp Tryz.func63 rfl trivial ?_ rfl
  simp only [Tryz.ntmps63, List.size_toArray, List.length_cons, List.length_nil, Nat.reduceAdd, Nat.reduceSub, Array.replicate_succ, Array.replicate_zero, List.push_toArray, List.append_toArray, List.nil_append, List.cons_append]
  gi_wp2
  gi_loopw [7] (fun i wr => ∃ k : Nat, k ≤ n ∧ i = .int .i64 k ∧ J (L.take k) wr ∧ RowKit.Below n0 W wr) (fun i _ => n - (intOf i).toNat)
  case atStart => exact ⟨0, Nat.zero_le _, rfl, h0, RowKit.Below.refl _ _⟩
  case round =>
    obtain ⟨k, hk, rfl, hJs, hnx⟩ := hrel
    by_cases hlt : k < n
    · have hkl : k < L.length := by rw [← HN.out]; exact hlt
      obtain ⟨a, rfl, hab, hcx⟩ := HR.out k (by rw [es_length]; exact hkl)
      have hc2 : wr.cell? (a.add k) = some (.int .u64 L[k]!) := by rw [hnx.cell (by rw [add_block]; exact hp (by omega) a rfl), hcx, es_getD L k hkl]
      have ht : L.take (k + 1) = L.take k ++ [L[k]!] := by rw [List.take_succ_eq_append_getElem hkl]; simp [hkl]
      have HT := Lib.hid ht
      obtain ⟨x, hx⟩ : ∃ x, x = L[k]! := ⟨_, rfl⟩
      rw [← hx] at hc2 HT
      obtain ⟨fn, tmps, assign, body, hy, hY2⟩ := hY _ x wr hJs (by rw [List.length_take]; omega)
      have k1 : (k : Int) < (n : Int) := by omega
      clear hx ht hcx
      gi_wp2
      refine hY2.mono ?_
      rintro e W3 (⟨rfl, hJ3, hk3⟩ | ⟨rfl, hJx3⟩)
      · gi_wp2
        go_roundw
        case rel => exact ⟨k + 1, by omega, by first | rfl | go_num | (congr 1; omega), by rw [HT.out]; exact hJ3, hnx.trans hk3⟩
        case measure => simp [intOf]; omega
      · gi_wp2
        refine bodyPost_ret (results_none rfl _ _ _) rfl ?_
        exact ⟨⟨_, rfl⟩, .inr ⟨_, by rw [← HT.out]; exact List.take_prefix _ _, hJx3⟩⟩
    · obtain rfl : k = n := by omega
      have k1 : ¬ (k : Int) < (k : Int) := by omega
      gi_wp2
      go_end0
      rw [List.take_of_length_le (by rw [← HN.out]; exact Nat.le_refl _)] at hJs
      first | exact ⟨⟨_, rfl⟩, .inl hJs⟩ | exact ⟨⟨_, rfl⟩, .inl ⟨_, rfl, hJs⟩⟩
theorem values_stops (Bs n0 c : Nat) (p : Option Addr) (L : List Int) (hlen : L.length ≤ 1000000000) (w : World) (hBs : Bs < w.heap.size) (hp : 0 < L.length → ∀ a, p = some a → a.block < n0)
    (hc : w.cell? ⟨Bs, 0, none⟩ = some (.slice p L.length c)) (hr : Rd w p (es L)) :
    SeqStopsK Fence.wide 3 Tryz.prog 63 #[.pointer (some ⟨Bs, 0, none⟩)] (fun x : Int => #[Value.int .u64 x]) (RowKit.Below n0) (fun ys => ys = L) (fun pre => pre <+: L) L.length w :=
  fun l J Jx W hW _ _ hY h0 => values1_in l Bs n0 c p L hlen hp J Jx hY W ((hW.cell (p := ⟨Bs, 0, none⟩) hBs).trans hc) (hr.below hW) h0
theorem values_enters : ∀ args w, (callFunc 63 args).run Tryz.prog w = .ok (.enter 63 args) w := enters_of Tryz.func63 (by kernel_rfl) rfl
theorem info_e : (Tryz.prog.info? 34).map (fun i => (i.zero, i.size, i.bytes)) = some (some (.int .u64 0), 1, 8) := by kernel_rfl
set_option maxRecDepth 100000 in
set_option maxHeartbeats 2000000 in
theorem appendSeq_in (L : List Int) (hl : L.length ≤ 1000000000) (n0 : Nat) (gf : Nat) (lb : Array Value) (w : World) (hn0 : n0 ≤ w.heap.size) (eg : ∀ args w, (callFunc gf args).run Tryz.prog w = .ok (.enter gf args) w)
    (hs : ∀ W, RowKit.Below w.heap.size w W → SeqStopsK Fence.wide 3 Tryz.prog gf lb (fun x : Int => #[Value.int .u64 x]) (RowKit.Below n0) (fun xs => xs = L) (fun pre => pre <+: L) L.length W) :
    CallsIn Fence.wide 4 Tryz.prog 82 #[.slice none 0 0, .func (.func gf) #[] lb] w fun e W' => ∃ v, e = .returned v ∧ W'.ownsRow w.heap.size 34 1 v L.length (es L) ∧ RowKit.Below w.heap.size w W' := by
  obtain ⟨i0, hi, hz0, hz1, hz2⟩ := info_parts info_e
  refine callsIn_of_wp_marks Tryz.func82 rfl trivial ?_ rfl
  simp only [Tryz.ntmps82, List.size_toArray, List.length_cons, List.length_nil, Nat.reduceAdd, Nat.reduceSub, Array.replicate_succ, Array.replicate_zero, List.push_toArray, List.append_toArray, List.nil_append, List.cons_append]
  gi_wp2
  have bO := Boxed.new w 22 (.slice none 0 0)
  have hB0 : RowKit.Below w.heap.size w (w.alloc (.cells #[.slice none 0 0] 22)) := (RowKit.Below.refl _ w).alloc (Nat.le_refl _) _
  refine wpIn_rangeFunc_ownG rfl (by omega) (gf := gf) (lb := lb) rfl trivial eg (hs _ hB0) belowK_t (belowK_b (by simp; omega)) (RowKit.Below.refl _ _) (fun _ => rfl)
    (fun pre W => (∃ v, Boxed W w.heap.size 22 v ∧ W.ownsRow w.heap.size 34 1 v pre.length (es pre) ∧ True) ∧ RowKit.Below w.heap.size w W)
    (fun _ _ _ => False)
    (OwnFrom.and (Own.from (holdsRow_own w.heap.size w.heap.size 22 34 1 (fun pre : List Int => pre.length) (fun pre => es pre) (fun _ _ => True)) _) (ownFrom_below (Nat.le_refl _) (by simp)))
    (fun _ _ _ _ _ hs _ _ => hs)
    ⟨⟨_, bO, World.ownsRow_nil _ _ _ _, trivial⟩, hB0⟩
    (fun x => { tmps := #[.slice none 0 0, .func (.func gf) #[] lb, .pointer (some ⟨w.heap.size, 0, none⟩), undef, .slice none 0 0, .int .u64 x, .func (.func gf) #[] lb, .int .u64 x, undef, undef, undef, undef, undef], defers := [] }) ?assign ?body ?done ?stop
  case assign =>
    intro l x W K hK
    gi_wp2
    exact hK
  case body =>
    rintro l pre x W ⟨⟨v, hv, hrow, _⟩, hB⟩ hlt
    have hc := hv.cell
    gi_wp2_with (gi_at_builtin; refine wpListIn_append_own _ rfl _ _ 22 rfl w.heap.size 34 i0 (.int .u64 0) 1 8 Tryz.underlying22 hi hz0 hz1 hz2 rfl (by decide) _ _ _ rfl (hrow.alloc _) ⟨W.heap.size, 0, none⟩ 1 1 [.int .u64 x] rfl rfl (cell_one_new _ _ _) (by simp [Value.oneCell']) (by unfold maxLen; omega) (by omega) (by have := hB.size; simp; omega) ?_; intro v' w1 hown' hgrow _; obtain ⟨g', cap', rfl⟩ := ownsRow_succ hown'; obtain ⟨hv1, hv2, hr2, hk2, hb2⟩ := hv.appended (by decide) hrow hB.size (Nat.le_refl _) hown' hgrow; have hc1 := hv1.cell; have hf1 := hv1.frozen)
    exact ⟨hk2.from _, hb2.mono hn0, ⟨_, hv2, by rw [es_snoc]; simpa using hr2, trivial⟩, hB.trans hb2⟩
  case done =>
    rintro D ys W hD rfl ⟨⟨v, hv, hrow, _⟩, hB⟩ hK
    have hc := hv.cell
    gi_wp2
    refine ⟨by simp, .inl ⟨_, _, rfl, run_takeDeferred hK, ?_⟩⟩
    exact ⟨_, results_tmp rfl _ _ _, v, rfl, ownsRow_putObj hrow _ hK rfl, hB.trans (belowK_b (w := w) (Nat.le_refl _) W D _ _ (by simp at hD; omega) hK rfl rfl)⟩
  case stop =>
    rintro D c pre W _ _ h _
    exact h.elim
theorem collect_any (L : List Int) (hl : L.length ≤ 1000000000) (n0 : Nat) (gf : Nat) (lb : Array Value) (w : World) (hn0 : n0 ≤ w.heap.size) (eg : ∀ args w, (callFunc gf args).run Tryz.prog w = .ok (.enter gf args) w)
    (hs : ∀ W, RowKit.Below w.heap.size w W → SeqStopsK Fence.wide 3 Tryz.prog gf lb (fun x : Int => #[Value.int .u64 x]) (RowKit.Below n0) (fun xs => xs = L) (fun pre => pre <+: L) L.length W) :
    Calls Tryz.prog 61 #[.func (.func gf) #[] lb] w fun e W' => ∃ v, e = .returned v ∧ W'.ownsRow w.heap.size 34 1 v L.length (es L) ∧ RowKit.Below w.heap.size w W' := by
  have HC := callsIn_wide.1 (appendSeq_in L hl n0 gf lb w hn0 eg hs)
  clear hs eg
  go_enter Tryz.func61, Tryz.ntmps61
  go_wp2_with (go_at_call 82; refine HC.mono ?_; rintro e w' ⟨v, rfl, hrow, hb⟩)
  go_ret
  exact ⟨v, rfl, hrow, hb⟩

/-! ### Sort -/
/-- a sorted row -/
def SortedP (w : World) (blk off n : Nat) (d : Array Int) (e : Ending) (w' : World) : Prop := ∃ d', e = .returned (.tuple #[]) ∧ PermIn 0 n d d' ∧ SortedIn ltInt 0 n d' ∧ At .u64 w blk off n d' w'
set_option maxHeartbeats 4000000 in
theorem sort_any (w : World) (blk off n cap : Nat) (d : Array Int) (S : At .u64 w blk off n d w) (hn : n ≤ 1000000000) :
    Calls Tryz.prog 62 #[.slice (some ⟨blk, off, none⟩) n cap] w (SortedP w blk off n d) := by
  have hl : Lib.bitLen n ≤ 1000 := bitLen_small n (by omega)
  have C2 := Lib.hid (pdq_any w blk off n cap (by omega) n 0 n (Lib.bitLen n) d w (by omega) (by omega) (Nat.le_refl _) hl (.inl rfl) S)
  have C1 := Lib.hid (fun w => Tryz.bits_Len (n : Int) w (by omega) (by omega))
  rw [Int.toNat_natCast] at C1
  obtain ⟨b, hb⟩ : ∃ b, b = Lib.bitLen n := ⟨_, rfl⟩
  rw [← hb] at C1 C2 hl
  clear hb S
  go_enter Tryz.func62, Tryz.ntmps62
  go_wp2_with fail
  ((with_reducible refine (C1.out _).mono ?_); rintro e w1 ⟨rfl, rfl⟩)
  have C3 : Hid (Calls Tryz.prog 83 #[.slice (some ⟨blk, off, none⟩) n cap, .int .i64 0, .int .i64 n, .int .i64 b] w1 (PqP w1 blk off n 0 n d)) := C2
  clear C1 C2
  go_wp2_with fail
  ((with_reducible refine C3.out.mono ?_); rintro e w2 ⟨d', rfl, h1, h2, h3⟩)
  have H1 := Lib.hid h1; have H2 := Lib.hid h2; have H3 := Lib.hid h3
  clear h1 h2 h3 C3
  go_wp2_with fail
  go_end0
  exact ⟨d', rfl, H1.out, H2.out, H3.out⟩
theorem insnil_any (p : Option Addr) (cap : Nat) (w : World) : Calls Tryz.prog 99 #[.slice p 0 cap, .int .i64 0, .int .i64 0] w (fun e w' => e = .returned (.tuple #[]) ∧ w' = w) := by
  go_enter Tryz.func99, Tryz.ntmps99
  go_wp2
  go_loopw [6] (fun vi wr => vi = .int .i64 1 ∧ wr = w) (fun _ _ => 0)
  case atStart => exact ⟨rfl, rfl⟩
  case round =>
    obtain ⟨rfl, rfl⟩ := hrel
    go_wp2
    go_end0
    exact ⟨rfl, rfl⟩
theorem pdqnil_any (p : Option Addr) (cap l : Nat) (w : World) : Calls Tryz.prog 83 #[.slice p 0 cap, .int .i64 0, .int .i64 0, .int .i64 l] w (fun e w' => e = .returned (.tuple #[]) ∧ w' = w) := by
  have C1 := Lib.hid (insnil_any p cap w)
  go_enter Tryz.func83, Tryz.ntmps83
  go_wp2
  go_loopw [1, 2] (fun va vb wr => va = .int .i64 0 ∧ vb = .int .i64 0 ∧ wr = w) (fun _ _ _ => 0)
  case atStart => exact ⟨rfl, rfl, rfl⟩
  case round =>
    obtain ⟨rfl, rfl, rfl⟩ := hrel
    go_wp2_with fail
    ((with_reducible refine C1.out.mono ?_); rintro z W ⟨rfl, rfl⟩)
    go_wp2_with fail
    (try simp only [Exit.inBlock, Exit.then])
    refine bodyPost_ret (results_none rfl _ _ _) rfl ?_
    exact ⟨rfl, rfl⟩
theorem sortnil_any (p : Option Addr) (cap : Nat) (w : World) : Calls Tryz.prog 62 #[.slice p 0 cap] w (fun e w' => e = .returned (.tuple #[]) ∧ w' = w) := by
  have C1 := Lib.hid (fun w => Tryz.bits_Len 0 w (by omega) (by omega))
  have C2 := Lib.hid (fun b w => pdqnil_any p cap b w)
  obtain ⟨b, hb⟩ : ∃ b, b = Lib.bitLen (0 : Int).toNat := ⟨_, rfl⟩
  rw [← hb] at C1
  clear hb
  go_enter Tryz.func62, Tryz.ntmps62
  go_wp2_with fail
  ((with_reducible refine (C1.out _).mono ?_); rintro e w1 ⟨rfl, rfl⟩)
  go_wp2_with fail
  ((with_reducible refine (C2.out _ _).mono ?_); rintro e w1 ⟨rfl, rfl⟩)
  go_wp2_with fail
  go_end0
  exact ⟨rfl, rfl⟩

/-! ### Sorted -/
/-- a new row with the numbers in order -/
def SortP (w : World) (L : List Int) (e : Ending) (w' : World) : Prop := ∃ (q : Option Addr) (c : Nat) (M : List Int), e = .returned (.slice q L.length c) ∧ M.Perm L ∧ M.Pairwise (· ≤ ·) ∧ L.length ≤ c ∧ Rd w' q (es M) ∧ NewAt w.heap.size q ∧ Fz w' q L.length ∧ (∀ a, q = some a → ∃ g, a = ⟨g, 0, none⟩) ∧ RowKit.Below w.heap.size w w'
set_option maxHeartbeats 4000000 in
theorem sorted_any (L : List Int) (hl : L.length ≤ 1000000000) (n0 : Nat) (gf : Nat) (lb : Array Value) (w : World) (hn0 : n0 ≤ w.heap.size) (eg : ∀ args w, (callFunc gf args).run Tryz.prog w = .ok (.enter gf args) w)
    (hs : ∀ W, RowKit.Below w.heap.size w W → SeqStopsK Fence.wide 3 Tryz.prog gf lb (fun x : Int => #[Value.int .u64 x]) (RowKit.Below n0) (fun xs => xs = L) (fun pre => pre <+: L) L.length W) :
    Calls Tryz.prog 39 #[.func (.func gf) #[] lb] w (SortP w L) := by
  have C1 := Lib.hid (collect_any L hl n0 gf lb w hn0 eg hs)
  clear hs eg
  go_enter Tryz.func39, Tryz.ntmps39
  go_wp2_with fail
  ((with_reducible refine C1.out.mono ?_); rintro e w1 ⟨v, rfl, hrow, hb⟩)
  have HB := Lib.hid hb
  have HROW := Lib.hid hrow
  clear C1 hb
  rcases hrow.2 with ⟨rfl, h0⟩ | ⟨g, cap, cur, rfl, hg, hh, hnc, hfr, hsz, hcur⟩
  · have hL : L = [] := by
      have := hrow.1
      rw [h0] at this
      exact List.eq_nil_of_length_eq_zero (by simpa [es] using this)
    have C2 := Lib.hid (sortnil_any none 0 w1)
    have HL := Lib.hid hL
    clear hrow HROW h0 hL
    go_wp2_with fail
    ((with_reducible refine C2.out.mono ?_); rintro e w2 ⟨rfl, rfl⟩)
    go_wp2_with fail
    go_ret
    rw [HL.out]
    exact ⟨none, 0, [], rfl, List.Perm.refl _, List.Pairwise.nil, Nat.le_refl _, Rd.nil _ _, fun a e => (by cases e), Fz.zero _ _, fun a e => (by cases e), HB.out⟩
  · have S : At .u64 w1 g 0 L.length L.toArray w1 := at_of_own HROW.out
    have C2 := Lib.hid (sort_any w1 g 0 L.length cap L.toArray S hl)
    clear hrow hh hfr hsz hcur S
    go_wp2_with fail
    ((with_reducible refine C2.out.mono ?_); rintro e w2 ⟨d', rfl, h1, h2, h3⟩)
    have H1 := Lib.hid h1; have H2 := Lib.hid h2; have H3 := Lib.hid h3
    clear h1 h2 h3 C2
    go_wp2_with fail
    go_ret
    obtain ⟨pm, ps⟩ := sorted_list L d' H1.out H2.out
    exact ⟨some ⟨g, 0, none⟩, cap, d'.toList, rfl, pm, ps, hnc, at_rd H3.out, fun a e => by cases e; exact hg, at_fz H3.out, fun a e => ⟨g, by cases e; rfl⟩, HB.out.trans (at_below H3.out (by show w.heap.size ≤ g; exact hg) HB.out.size)⟩
end Go.Proofs.YtonlbcibfbbpgaaGreat.StU
namespace Go.Proofs.YtonlbcibfbbpgaaGreat.StU
open Go.RowKit Go.Lib Go.Sort Rw St Ls Od
theorem snan_any (x : Int) (w : World) : Calls Tryz.prog 65 #[.int .u64 x] w fun e w' => e = .returned (.bool false) ∧ w = w' := by
  go_enter Tryz.func65, Tryz.ntmps65
  go_wp2
  go_ret
  exact ⟨by simp, rfl⟩
theorem less_same (x y : Int) (w : World) : Calls Tryz.prog 64 #[.int .u64 x, .int .u64 y] w fun e w' => e = .returned (.bool (ltInt x y)) ∧ w = w' := (less_any x y w).mono fun _ _ ⟨h1, h2⟩ => ⟨h1, h2.symm⟩
/-- a place, and whether it is there -/
def BsP (i : Nat) (w : World) (e : Ending) (w' : World) : Prop := ∃ b : Bool, e = .returned (.tuple #[.int .i64 i, .bool b]) ∧ w = w'
set_option maxHeartbeats 4000000 in
theorem bs_any (M : List Int) (hs : M.Pairwise (· < ·)) (t : Int) (q : Option Addr) (c n : Nat) (w : World) (hn : n = M.length) (hl : n ≤ 1000000000) (hr : Rd w q (es M)) :
    Calls Tryz.prog 41 #[.slice q n c, .int .u64 t] w (BsP (M.countP fun x => decide (x < t)) w) := by
  obtain ⟨r, hr0⟩ : ∃ r, r = M.countP fun x => decide (x < t) := ⟨_, rfl⟩
  rw [← hr0]
  have HN := Lib.hid hn; have HR := Lib.hid hr; have HS := Lib.hid hs; have H0 := Lib.hid hr0
  clear hn hr hs hr0
  go_enter Tryz.func41, Tryz.ntmps41
  go_wp2
  go_loopg [7, 8] n (fun g vi vj wr => ∃ i j : Nat, vi = .int .i64 i ∧ vj = .int .i64 j ∧ i ≤ j ∧ j ≤ n ∧ j - i ≤ g ∧ Hid (∀ k, k < i → M[k]! < t) ∧ Hid (∀ k, j ≤ k → k < n → ¬ M[k]! < t) ∧ wr = w)
  case atStart => exact ⟨0, n, rfl, rfl, Nat.zero_le _, Nat.le_refl _, Nat.le_refl _, Lib.hid (fun k h => absurd h (by omega)), Lib.hid (fun k h h2 => absurd h (by omega)), rfl⟩
  case round =>
    obtain ⟨i, j, rfl, rfl, hij, hjn, hg, HA, HB, rfl⟩ := hrel
    by_cases hlt : i < j
    · obtain ⟨h, hh⟩ : ∃ h, h = (i + j) / 2 := ⟨_, rfl⟩
      have e1 : ((i : Int) + (j : Int)) / 2 = (h : Int) := by omega
      have e2 : ((i : Int) + (j : Int)).tdiv 2 = (h : Int) := by rw [Int.tdiv_eq_ediv_of_nonneg (by omega)]; exact e1
      have hb1 : i ≤ h := by omega
      have hb2 : h < j := by omega
      have hhn : (h : Int) < (n : Int) := by omega
      have hz : (i : Int) < (j : Int) := by omega
      have hhl : h < M.length := by rw [← HN.out]; omega
      obtain ⟨x, hx⟩ : ∃ x, x = M[h]! := ⟨_, rfl⟩
      obtain ⟨a, rfl, hab, hcx⟩ := HR.out h (by rw [es_length]; exact hhl)
      rw [es_getD M h hhl, ← hx] at hcx
      have HX := Lib.hid hx
      clear hh hx
      cases hl : ltInt x t with
      | true =>
        have HL := Lib.hid hl
        go_wp2_with (go_at_call 64; (with_reducible refine (less_same _ _ _).mono ?_); rintro e w1 ⟨rfl, rfl⟩)
        go_roundg (j - (h + 1))
        case measure => omega
        case rel => exact ⟨h + 1, j, by first | rfl | go_num | (congr 1; omega), rfl, by omega, hjn, Nat.le_refl _, Lib.hid (bs_low HS.out (by rw [← HX.out]; exact of_decide_eq_true HL.out) hhl), HB, rfl⟩
      | false =>
        have HL := Lib.hid hl
        go_wp2_with (go_at_call 64; (with_reducible refine (less_same _ _ _).mono ?_); rintro e w1 ⟨rfl, rfl⟩)
        go_roundg (h - i)
        case measure => omega
        case rel => exact ⟨i, h, rfl, rfl, hb1, by omega, Nat.le_refl _, HA, Lib.hid (fun k h1 h2 => by first | exact bs_high HS.out (by rw [← HX.out]; exact of_decide_eq_false HL.out) h1 (by rw [← HN.out]; exact h2) | exact Int.not_lt.1 (bs_high HS.out (by rw [← HX.out]; exact of_decide_eq_false HL.out) h1 (by rw [← HN.out]; exact h2))), rfl⟩
    · obtain rfl : i = j := by omega
      have hr1 : r = i := by rw [H0.out]; exact bs_count HA.out (fun k h1 h2 => HB.out k h1 (by rw [HN.out]; exact h2)) (by rw [← HN.out]; exact hjn)
      have HR1 := Lib.hid hr1
      have hz : ¬ (i : Int) < (i : Int) := by omega
      clear hr1
      by_cases hin : i < n
      · have iz : (i : Int) < (n : Int) := by omega
        have izd : decide ((i : Int) < (n : Int)) = true := decide_eq_true iz
        have hil : i < M.length := by rw [← HN.out]; exact hin
        obtain ⟨x, hx⟩ : ∃ x, x = M[i]! := ⟨_, rfl⟩
        obtain ⟨a, rfl, hab, hcx⟩ := HR.out i (by rw [es_length]; exact hil)
        rw [es_getD M i hil, ← hx] at hcx
        clear hx
        cases hxe : (x == t) with
        | true =>
          go_wp2_with (go_at_call 65; (with_reducible refine (snan_any _ _).mono ?_); rintro e w1 ⟨rfl, rfl⟩)
          refine bodyPost_ret (v := .tuple #[.int .i64 i, .bool true]) (by simp [results, Tryz.results41, go_sem]) rfl ?_
          rw [HR1.out]
          exact ⟨true, rfl, rfl⟩
        | false =>
          go_wp2_with (go_at_call 65; (with_reducible refine (snan_any _ _).mono ?_); rintro e w1 ⟨rfl, rfl⟩)
          refine bodyPost_ret (v := .tuple #[.int .i64 i, .bool false]) (by simp [results, Tryz.results41, go_sem]) rfl ?_
          rw [HR1.out]
          exact ⟨false, rfl, rfl⟩
      · have iz : ¬ (i : Int) < (n : Int) := by omega
        have izd : decide ((i : Int) < (n : Int)) = false := decide_eq_false iz
        go_wp2
        refine bodyPost_ret (v := .tuple #[.int .i64 i, .bool false]) (by simp [results, Tryz.results41, go_sem]) rfl ?_
        rw [HR1.out]
        exact ⟨false, rfl, rfl⟩
theorem compact0_any (p : Option Addr) (c : Nat) (w : World) : Calls Tryz.prog 38 #[.slice p 0 c] w fun e w' => e = .returned (.slice p 0 c) ∧ w = w' := by
  go_enter Tryz.func38, Tryz.ntmps38
  go_wp2
  go_ret
  exact ⟨rfl, rfl⟩
theorem values_any (p : Option Addr) (n c : Nat) (w : World) : Calls Tryz.prog 40 #[.slice p n c] w fun e w' => e = .returned (.func (.func 63) #[] #[.pointer (some ⟨w.heap.size, 0, none⟩)]) ∧ w.alloc (.cells #[.slice p n c] 22) = w' := by
  go_enter Tryz.func40, Tryz.ntmps40
  go_wp2
  go_ret
  exact ⟨rfl, rfl⟩
/-- the numbers that there are, in order, each once -/
def KnP (w : World) (L : List Int) (e : Ending) (w' : World) : Prop := ∃ (q : Option Addr) (c : Nat) (M : List Int), e = .returned (.slice q M.length c) ∧ M.Pairwise (· < ·) ∧ (∀ x, x ∈ M ↔ x ∈ L) ∧ M.length ≤ L.length ∧ Rd w' q (es M) ∧ RowKit.Below w.heap.size w w'
theorem compact_any (w0 w : World) (L : List Int) (q : Option Addr) (c : Nat) (hl : L.length ≤ 1000000000) (h : SortP w0 L (.returned (.slice q L.length c)) w) :
    Calls Tryz.prog 38 #[.slice q L.length c] w (KnP w0 L) := by
  obtain ⟨q', c', M, he, hp, hs, hc, hr, hn, hf, hz, hb⟩ := h
  have he2 : q' = q ∧ c' = c := by
    have := congrArg (fun e => match e with | Ending.returned (.slice a b c) => (a, c) | _ => (none, 0)) he
    simp at this
    exact ⟨this.1.symm, this.2.symm⟩
  obtain ⟨rfl, rfl⟩ := he2
  have hML : M.length = L.length := hp.length_eq
  by_cases h0 : L.length = 0
  · have hL : L = [] := List.eq_nil_of_length_eq_zero h0
    subst hL
    refine (compact0_any q' c' w).mono ?_
    rintro e w' ⟨rfl, rfl⟩
    exact ⟨q', c', [], rfl, List.Pairwise.nil, fun x => Iff.rfl, Nat.le_refl _, Rd.nil _ _, hb⟩
  · obtain ⟨a, rfl, hab⟩ := hr.form (by rw [es_length]; omega)
    obtain ⟨g, rfl⟩ := hz a rfl
    have hH : Holds (Value.int .u64) w g 0 M.toArray := fun j hj => by
      have hj2 : j < M.length := by simpa using hj
      have e1 : ((⟨g, 0, none⟩ : Addr).add j) = ⟨g, j, none⟩ := by simp [Addr.add] <;> omega
      have h1 := hr.at (i := j) (by rw [es_length]; exact hj2)
      have h2 := hf _ rfl j (by omega)
      rw [e1] at h1 h2
      rw [Nat.zero_add]
      refine ⟨?_, h2⟩
      rw [h1, es_getD M j hj2]
      simp [hj2]
    have C := Tryz.slices_Compact_U g 0 c' M.toArray w hH (by simp; omega) (by simp; omega)
    rw [List.size_toArray, hML] at C
    refine C.mono ?_
    rintro e w' ⟨rfl, z, rfl⟩
    have hcl := comp_len M.toArray
    obtain ⟨k1, k2⟩ := comp_sorted M hs
    rw [List.size_toArray, hML] at hcl
    rw [hML] at k1 k2
    have hsz : (compactUpTo M.toArray L.length ++ List.replicate (L.length - (compactUpTo M.toArray L.length).length) (0 : Int)).toArray.size = L.length := by simp; omega
    have S : At .u64 w g 0 L.length (compactUpTo M.toArray L.length ++ List.replicate (L.length - (compactUpTo M.toArray L.length).length) (0 : Int)).toArray (putRow (Value.int .u64) (Sort.ahead w z) g 0 (compactUpTo M.toArray L.length ++ List.replicate (L.length - (compactUpTo M.toArray L.length).length) (0 : Int)).toArray) :=
      ⟨hsz, ⟨M.toArray, by simpa using hML, ⟨fun _ => rfl, hH, hab⟩⟩, ⟨z, #[], by unfold sortWorld; simp⟩⟩
    have hR := at_rd S
    rw [List.toList_toArray, List.map_append] at hR
    exact ⟨_, c', _, rfl, k1, fun x => (k2 x).trans (hp.mem_iff), hcl, hR.pre, hb.trans (at_below S (hn _ rfl) hb.size)⟩
/-- the ranks of a list: new places in the order of its things -/
def RanksP (w : World) (L : List Int) (e : Ending) (w' : World) : Prop := ∃ (q : Option Addr) (c : Nat) (R : List Nat), e = .returned (.slice q R.length c) ∧ R.length = L.length ∧ R.length ≤ c ∧ Rd w' q (zs (up R)) ∧ RowKit.Below w.heap.size w w' ∧ (∀ x ∈ R, x ≤ 1000000000) ∧
  (∀ i j, i < L.length → j < L.length → (R.getD i 0 < R.getD j 0 ↔ L.getD i 0 < L.getD j 0))
set_option maxHeartbeats 8000000 in
set_option maxRecDepth 100000 in
theorem ranks_any (L : List Int) (p : Option Addr) (c : Nat) (w : World) (hl : L.length ≤ 1000000000) (hr : Rd w p (es L)) :
    Calls Tryz.prog 18 #[.slice p L.length c] w (RanksP w L) := by
  obtain ⟨i0, hi, hz0, hz1, hz2⟩ := info_parts info_int
  have C2 := Lib.hid (fun W (hW : RowKit.Below (w.heap.size + 1) (w.alloc (.cells #[.slice p L.length c] 22)) W) => values_stops w.heap.size w.heap.size c p L hl W (Nat.lt_of_lt_of_le (Nat.lt_succ_self _) (by have := hW.size; simpa using this)) (fun h0 a e => by
      obtain ⟨a', e', hb⟩ := hr.form (by rw [es_length]; exact h0)
      rw [e] at e'; cases e'; exact hb) ((hW.cell (p := ⟨w.heap.size, 0, none⟩) (by simp)).trans (by simp)) ((hr.alloc _).below (by simpa using hW)))
  have C3 := Lib.hid (sorted_any L hl w.heap.size 63 #[.pointer (some ⟨w.heap.size, 0, none⟩)] (w.alloc (.cells #[.slice p L.length c] 22)) (by simp) values_enters (fun W hW => C2.out W (by simpa using hW)))
  have C1 := Lib.hid (values_any p L.length c w)
  obtain ⟨n, hn⟩ : ∃ n, n = L.length := ⟨_, rfl⟩
  rw [← hn] at C1 C3 hl ⊢
  have HN := Lib.hid hn; have HR := Lib.hid hr
  clear hn hr C2
  go_enter Tryz.func18, Tryz.ntmps18
  go_wp2_with fail
  ((with_reducible refine C1.out.mono ?_); rintro e w1 ⟨rfl, rfl⟩)
  go_wp2_with fail
  ((with_reducible refine C3.out.mono ?_); rintro e w1 hS)
  obtain ⟨q1, c1, M1, rfl, hS2⟩ := hS
  have C4 := Lib.hid (compact_any _ w1 L q1 c1 (by rw [← HN.out]; exact hl) ⟨q1, c1, M1, rfl, hS2⟩)
  rw [← HN.out] at C4 ⊢
  clear C1 C3 hS2
  go_wp2_with fail
  ((with_reducible refine C4.out.mono ?_); rintro e w2 ⟨q2, c2, M, rfl, m1, m2, m3, m4, m5⟩)
  have HM1 := Lib.hid m1; have HM2 := Lib.hid m2; have HM3 := Lib.hid m3; have HM4 := Lib.hid m4
  have B2 : Hid (RowKit.Below w.heap.size w w2) := Lib.hid (((RowKit.Below.refl _ w).alloc (Nat.le_refl _) _).trans (m5.mono (by simp)))
  clear m1 m2 m3 m4 m5 C4
  obtain ⟨m, hm⟩ : ∃ m, m = M.length := ⟨_, rfl⟩
  rw [← hm]
  have HM := Lib.hid hm
  have hml : m ≤ 1000000000 := by have := HM3.out; have := HN.out; omega
  clear hm
  go_wp2_with (at_make; refine wpList_make_own _ rfl _ _ 27 rfl w2.heap.size 3 i0 (.int .i64 0) 1 Tryz.underlying27 hi hz0 hz1 .i64 .i64 (n : Int) n rfl rfl rfl ?c1 ?c2 ?c3 ?_)
  case c1 => rw [hz2]; omega
  case c2 => unfold maxLen; omega
  case c3 => exact Nat.le_refl _
  intro w3 hown hgr
  have hb3 : RowKit.Below w2.heap.size w2 w3 := (RowKit.Below.refl _ w2).grown hgr (Nat.le_refl _) (by simp)
  have HO := Lib.hid hown; have HB := Lib.hid hb3
  have HL : Hid (Rd w2 p (es L)) := Lib.hid (HR.out.below B2.out)
  clear hown hgr hb3 HR
  go_wp2_with fail
  obtain ⟨R, hR⟩ : ∃ R : List Nat, R = L.map (fun t => M.countP fun x => decide (x < t)) := ⟨_, rfl⟩
  have HRR := Lib.hid hR
  have hRl : R.length = n := by rw [hR, List.length_map, HN.out]
  clear hR
  go_loopw [4, 18] (fun u i wr => ∃ k : Nat, k ≤ n ∧ i = .int .i64 k ∧ Hid (wr.ownsRow w2.heap.size 3 1 u k (zs (up (R.take k)))) ∧ Hid (RowKit.Below w2.heap.size w2 wr)) (fun _ i _ => n - (intOf i).toNat)
  case atStart => exact ⟨0, by omega, rfl, Lib.hid (by simpa [zs, up] using HO.out), HB⟩
  case round =>
    obtain ⟨k, hk, rfl, HO2, HBL⟩ := hrel
    by_cases hlt : k < n
    · have hkl : k < L.length := by rw [← HN.out]; exact hlt
      have kz : (k : Int) < (n : Int) := by omega
      obtain ⟨x, hx⟩ : ∃ x, x = L[k]! := ⟨_, rfl⟩
      obtain ⟨a, rfl, hab, hcx⟩ := (HL.out.below HBL.out) k (by rw [es_length]; exact hkl)
      rw [es_getD L k hkl, ← hx] at hcx
      have C5 := Lib.hid (bs_any M HM1.out x q2 c2 m wr HM.out hml (HM4.out.below HBL.out))
      obtain ⟨r, hr⟩ : ∃ r, r = M.countP fun y => decide (y < x) := ⟨_, rfl⟩
      rw [← hr] at C5
      have ht : R.take (k + 1) = R.take k ++ [r] := by
        have hkr : k < R.length := by omega
        rw [List.take_succ_eq_append_getElem hkr]
        congr 2
        have : R[k]? = some r := by rw [HRR.out, hr, hx]; simp [hkl]
        rw [List.getElem?_eq_getElem hkr] at this
        exact Option.some.inj this
      have HT := Lib.hid ht
      have hz := HBL.out.size
      clear hx hr ht
      go_wp2_with fail
      ((with_reducible refine C5.out.mono ?_); rintro e w4 ⟨fl, rfl, rfl⟩)
      clear C5
      go_wp2_with (at_builtin; refine Rw.push rfl _ _ 27 rfl w2.heap.size 3 i0 (.int .i64 0) 1 8 Tryz.underlying27 hi hz0 hz1 hz2 rfl (by decide) _ _ _ rfl HO2.out [.int .i64 (r : Int)] rfl rfl rfl (by omega) (by omega) (by omega) ?_)
      intro g cap w5 hown2 _ _ _ hgr
      have H3 : Hid (w5.ownsRow w2.heap.size 3 1 (.slice (some ⟨g, 0, none⟩) (k + 1) cap) (k + 1) (zs (up (R.take (k + 1))))) := Lib.hid (by rw [HT.out]; simpa [zs, up] using hown2)
      have H4 := Lib.hid (HBL.out.trans hgr)
      clear hown2 hgr
      go_wp2_with fail
      go_roundw
      case rel => exact ⟨k + 1, by omega, by first | rfl | go_num | (congr 1; omega), H3, H4⟩
      case measure => simp [intOf]; omega
    · obtain rfl : k = n := by omega
      have kz : ¬ (k : Int) < (k : Int) := by omega
      have htk : R.take k = R := List.take_of_length_le (by omega)
      rw [htk] at HO2
      have HRL := Lib.hid hRl
      have hsh := ownsRow_slice HO2.out
      obtain ⟨A, cap, rfl, hcap⟩ := hsh
      clear htk hRl
      go_wp2_with fail
      go_ret
      refine ⟨A, cap, R, by rw [HRL.out]; rfl, by rw [HRL.out, HN.out], by rw [HRL.out]; exact hcap, Rd.of_own HO2.out, B2.out.trans (HBL.out.mono B2.out.size), ?_, ?_⟩
      · intro y hy
        rw [HRR.out, List.mem_map] at hy
        obtain ⟨t, _, rfl⟩ := hy
        exact Nat.le_trans (List.countP_le_length) (by rw [← HM.out]; exact hml)
      · intro i j hi hj
        rw [HRR.out]
        exact rank_iff HM1.out (fun x hx => (HM2.out x).2 hx) hi hj
end Go.Proofs.YtonlbcibfbbpgaaGreat.StU
