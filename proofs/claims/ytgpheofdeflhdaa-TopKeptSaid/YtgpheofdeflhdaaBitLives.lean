/- Bits at work: put. The walk of put. Bits at work: gathered, done; same. The walks of same and Put. The walk of Put. The walk of the law's own examples: puts. -/
import Derived.Test.YtgpheofdeflhdaaBitWork
import Derived.OneCell
import Derived.Laws.IdiomStrings
import Derived.Deep.RegionHeld3
import Derived.Laws.StructEq
namespace Go.Proofs.Ytgpheofdeflhdaa.Bt
open Go.RowKit

/-- blocks that hold neither bytes nor bits at work stay as they are -/
def Kept (w w' : World) : Prop := ∀ (k : Nat) (cs : Array Value) (ty : TypeId) (fr : Nat × Nat), w.heap[k]? = some (Obj.cells cs ty fr) → ty ≠ 5 → ty ≠ 93 → w'.heap[k]? = w.heap[k]?
theorem Kept.refl (w : World) : Kept w w := fun _ _ _ _ _ _ _ => rfl
theorem Kept.trans {a b c : World} (h : Kept a b) (k : Kept b c) : Kept a c := fun i cs ty fr hi h1 h2 => by
  have e := h i cs ty fr hi h1 h2
  rw [k i cs ty fr (by rw [e]; exact hi) h1 h2, e]
theorem Kept.drewN {a w : World} (h : Kept a w) (n : Nat) : Kept a (w.drewN n) := h
theorem Kept.alloc {a w : World} (h : Kept a w) (o : Obj) : Kept a (w.alloc o) := h.trans fun k cs ty fr hk _ _ => by
  have hlt : k < w.heap.size := (Array.getElem?_eq_some_iff.1 hk).1
  exact Below.heap_alloc w o k hlt
theorem Kept.setCell {a w : World} (h : Kept a w) (b i : Nat) (u : Value) (hb : ∀ (cs : Array Value) (ty : TypeId) (fr : Nat × Nat), w.heap[b]? = some (Obj.cells cs ty fr) → ty = 5 ∨ ty = 93) : Kept a (w.setCell ⟨b, i, none⟩ u) := h.trans fun k cs ty fr hk h1 h2 => by
  apply heap_setCell_other
  intro e
  subst e
  rcases hb cs ty fr hk with rfl | rfl
  · exact h1 rfl
  · exact h2 rfl
theorem Kept.grown {a w w' : World} {row : Option Nat} (h : Kept a w) (hg : w.grownBy w' row) (hr : ∀ g, row = some g → ∀ (cs : Array Value) (ty : TypeId) (fr : Nat × Nat), w.heap[g]? = some (Obj.cells cs ty fr) → ty = 5 ∨ ty = 93) : Kept a w' := h.trans fun k cs ty fr hk h1 h2 => by
  apply hg.block k (Array.getElem?_eq_some_iff.1 hk).1
  intro e
  rcases hr k e.symm cs ty fr hk with rfl | rfl
  · exact h1 rfl
  · exact h2 rfl
/-- an owned row's block holds bytes -/
theorem row_type {w : World} {B : Nat} {v : Value} {n : Nat} {xs : List Value} (h : w.ownsRow B 5 1 v n xs) : ∀ g, v.ownBlock = some g → ∀ (cs : Array Value) (ty : TypeId) (fr : Nat × Nat), w.heap[g]? = some (Obj.cells cs ty fr) → ty = 5 ∨ ty = 93 := by
  intro g hg cs ty fr hk
  rcases h.2 with ⟨rfl, _⟩ | ⟨g', cap, cur, rfl, _, hh, _⟩
  · simp [Value.ownBlock] at hg
  · simp only [Value.ownBlock, Option.some.injEq] at hg
    subst hg
    rw [hh] at hk
    simp only [Option.some.injEq, Obj.cells.injEq] at hk
    exact .inl hk.2.1.symm
theorem row_ne {w : World} {B : Nat} {v : Value} {n p : Nat} {xs : List Value} {cs : Array Value} (h : w.ownsRow B 5 1 v n xs) (hp : w.heap[p]? = some (.cells cs 93 (0, 0))) : v.ownBlock ≠ some p := by
  intro e
  rcases h.2 with ⟨rfl, _⟩ | ⟨g', cap, cur, rfl, _, hh, _⟩
  · simp [Value.ownBlock] at e
  · simp only [Value.ownBlock, Option.some.injEq] at e
    subst e
    rw [hh] at hp
    simp at hp
theorem row_ge {w : World} {B : Nat} {v : Value} {n : Nat} {xs : List Value} (h : w.ownsRow B 5 1 v n xs) : ∀ g, v.ownBlock = some g → B ≤ g := by
  intro g e
  rcases h.2 with ⟨rfl, _⟩ | ⟨g', cap, cur, rfl, hb, _⟩
  · simp [Value.ownBlock] at e
  · simp only [Value.ownBlock, Option.some.injEq] at e
    subst e; exact hb

/-- bits at work, all told: the block, the row, where they lie -/
structure St (w : World) (B p : Nat) (L : List UInt8) (N : Int) (s0 : ByteArray) (v : Value) : Prop where
  own : B ≤ p
  block : w.heap[p]? = some (.cells #[.string s0, .int .i64 N, v] 93 (0, 0))
  row : w.ownsRow B 5 1 v L.length (Lib.byteCells L)
  nn : v ≠ .slice none 0 0
theorem St.work {w : World} {B p : Nat} {L : List UInt8} {N : Int} {s0 : ByteArray} {v : Value} (h : St w B p L N s0 v) : Work w B p L N := ⟨h.own, s0, v, h.block, h.row, h.nn⟩
theorem St.c1 {w : World} {B p : Nat} {L : List UInt8} {N : Int} {s0 : ByteArray} {v : Value} (h : St w B p L N s0 v) : w.cell? ⟨p, 1, none⟩ = some (.int .i64 N) := by simp [World.cell?, h.block]
theorem St.c2 {w : World} {B p : Nat} {L : List UInt8} {N : Int} {s0 : ByteArray} {v : Value} (h : St w B p L N s0 v) : w.cell? ⟨p, 2, none⟩ = some v := by simp [World.cell?, h.block]
theorem St.f {w : World} {B p : Nat} {L : List UInt8} {N : Int} {s0 : ByteArray} {v : Value} (h : St w B p L N s0 v) (i : Nat) : w.frozen? ⟨p, i, none⟩ = false := by simp [World.frozen?, h.block]
theorem St.size {w : World} {B p : Nat} {L : List UInt8} {N : Int} {s0 : ByteArray} {v : Value} (h : St w B p L N s0 v) : p < w.heap.size := (Array.getElem?_eq_some_iff.1 h.block).1
theorem St.alloc {w : World} {B p : Nat} {L : List UInt8} {N : Int} {s0 : ByteArray} {v : Value} (h : St w B p L N s0 v) (o : Obj) : St (w.alloc o) B p L N s0 v :=
  ⟨h.own, by rw [Below.heap_alloc w o p h.size]; exact h.block, h.row.alloc o, h.nn⟩
theorem St.drewN {w : World} {B p : Nat} {L : List UInt8} {N : Int} {s0 : ByteArray} {v : Value} (h : St w B p L N s0 v) (n : Nat) : St (w.drewN n) B p L N s0 v := ⟨h.own, h.block, h.row, h.nn⟩
/-- the slice is not nil -/
theorem St.shape {w : World} {B p : Nat} {L : List UInt8} {N : Int} {s0 : ByteArray} {v : Value} (h : St w B p L N s0 v) : ∃ g cap, v = .slice (some ⟨g, 0, none⟩) L.length cap ∧ L.length ≤ cap := by
  rcases h.row.2 with ⟨h0, _⟩ | ⟨g, cap, cur, hv, _, _, hn, _⟩
  · exact absurd h0 h.nn
  · exact ⟨g, cap, hv, hn⟩
/-- a byte of the row -/
theorem St.byte {w : World} {B p : Nat} {L : List UInt8} {N : Int} {s0 : ByteArray} {g cap : Nat} (h : St w B p L N s0 (.slice (some ⟨g, 0, none⟩) L.length cap)) (j : Nat) (hj : j < L.length) :
    w.cell? ⟨g, j, none⟩ = some (.int .u8 ((L.getD j 0).toNat : Int)) ∧ w.frozen? ⟨g, j, none⟩ = false := by
  refine ⟨?_, h.row.frozenAt j⟩
  rw [h.row.cellAt j (by omega)]
  simp [Lib.byteCells, List.getD_eq_getElem?_getD, hj]
/-- the row behind an append -/
theorem St.appended {w w1 : World} {B p : Nat} {L L' : List UInt8} {N : Int} {s0 : ByteArray} {v v' : Value} (h : St w B p L N s0 v) (hg : w.grownBy w1 v.ownBlock)
    (hr : w1.ownsRow B 5 1 v' L'.length (Lib.byteCells L')) (hnn : v' ≠ .slice none 0 0) : St (w1.setCell ⟨p, 2, none⟩ v') B p L' N s0 v' := by
  have hp1 : w1.heap[p]? = some (.cells #[.string s0, .int .i64 N, v] 93 (0, 0)) := by
    rw [hg.block p h.size (fun e => row_ne h.row h.block e.symm)]; exact h.block
  refine ⟨h.own, ?_, ownsRow_setCell_other hr (row_ne hr hp1) v', hnn⟩
  rw [heap_setCell_same w1 p 2 _ _ v' hp1]; rfl
/-- a byte of the row turned, and the count raised -/
theorem St.stored {w : World} {B p : Nat} {L : List UInt8} {N : Int} {s0 : ByteArray} {g cap : Nat} (h : St w B p L N s0 (.slice (some ⟨g, 0, none⟩) L.length cap)) (j : Nat) (x : UInt8) (N' : Int) :
    St ((w.setCell ⟨g, j, none⟩ (.int .u8 (x.toNat : Int))).setCell ⟨p, 1, none⟩ (.int .i64 N')) B p (L.set j x) N' s0 (.slice (some ⟨g, 0, none⟩) L.length cap) := by
  have hne : p ≠ g := by
    intro e; subst e
    exact row_ne h.row h.block rfl
  have hp1 : (w.setCell ⟨g, j, none⟩ (.int .u8 (x.toNat : Int))).heap[p]? = some (.cells #[.string s0, .int .i64 N, .slice (some ⟨g, 0, none⟩) L.length cap] 93 (0, 0)) := by
    rw [heap_setCell_other _ _ _ _ hne]; exact h.block
  have hr := (h.row.stored j (.int .u8 (x.toNat : Int))).1
  have hset : (Lib.byteCells L).set j (.int .u8 (x.toNat : Int)) = Lib.byteCells (L.set j x) := by simp [Lib.byteCells, List.map_set]
  rw [hset] at hr
  refine ⟨h.own, ?_, ?_, by simp⟩
  · rw [heap_setCell_same _ p 1 _ _ _ hp1]; rfl
  · rw [List.length_set]
    exact ownsRow_setCell_other hr (row_ne hr hp1) _
/-- what an append of a byte of noughts leaves -/
theorem St.appended0 {w w1 : World} {B p : Nat} {L : List UInt8} {N : Int} {s0 : ByteArray} {v v' : Value} (h : St w B p L N s0 v) (o : Obj) (hg : (w.alloc o).grownBy w1 v.ownBlock)
    (hr : w1.ownsRow B 5 1 v' (L.length + 1) (Lib.byteCells L ++ [.int .u8 0])) :
    w1.cell? ⟨p, 2, none⟩ = some v ∧ w1.frozen? ⟨p, 2, none⟩ = false ∧ St (w1.setCell ⟨p, 2, none⟩ v') B p (L ++ [0]) N s0 v' ∧ w1.heap[p]? = some (.cells #[.string s0, .int .i64 N, v] 93 (0, 0)) := by
  have ha := h.alloc o
  have hp1 : w1.heap[p]? = some (.cells #[.string s0, .int .i64 N, v] 93 (0, 0)) := by
    rw [hg.block p ha.size (fun e => row_ne ha.row ha.block e.symm)]; exact ha.block
  refine ⟨by simp [World.cell?, hp1], by simp [World.frozen?, hp1], ha.appended hg ?_ ?_, hp1⟩
  case refine_2 =>
    intro e; subst e
    rcases hr.2 with ⟨_, h0⟩ | ⟨_, _, _, h0, _⟩
    · omega
    · cases h0
  rw [List.length_append]
  have e : Lib.byteCells (L ++ [0]) = Lib.byteCells L ++ [.int .u8 0] := by simp [Lib.byteCells]
  rw [e]; exact hr
end Go.Proofs.Ytgpheofdeflhdaa.Bt
namespace Go.Proofs.Ytgpheofdeflhdaa.Bt
open Go.RowKit

theorem part_val (v rs step : Nat) (hv : v < 18446744073709551616) (hs : step ≤ 8) :
    bits .and .u64 ((v : Int) / 2 ^ rs) (IntKind.u64.wrap (IntKind.u64.wrap (2 ^ step) - 1)) = ((v / 2 ^ rs % 2 ^ step : Nat) : Int) := by
  have hp := pow_small hs
  have hp1 := Nat.two_pow_pos step
  have e2 : (v : Int) / 2 ^ rs = ((v / 2 ^ rs : Nat) : Int) := by simp
  have e3 : (2 : Int) ^ step = ((2 ^ step : Nat) : Int) := by simp
  have e4 : ((2 ^ step : Nat) : Int) - 1 = ((2 ^ step - 1 : Nat) : Int) := by omega
  have hcs : v / 2 ^ rs ≤ v := Nat.div_le_self _ _
  rw [e2, e3, wrap_nat (by omega), e4, wrap_nat (by omega), u64_and_nat _ _ (by omega) (by omega), Nat.and_two_pow_sub_one_eq_mod]

theorem or_val (c : UInt8) (part sh step : Nat) (h1 : step ≤ 8) (h2 : sh ≤ 8) (hp : part < 2 ^ step) :
    bits .or .u8 (c.toNat : Int) (IntKind.u64.wrap ((part : Int) * 2 ^ sh) % 256) = ((orb c (part * 2 ^ sh)).toNat : Int) := by
  have q1 := pow_small h1
  have q2 := pow_small h2
  have hm : part * 2 ^ sh ≤ 256 * 256 := Nat.mul_le_mul (by omega) q2
  have e1 : ((part : Int) * 2 ^ sh) = ((part * 2 ^ sh : Nat) : Int) := by simp
  have e2 : ((part * 2 ^ sh : Nat) : Int) % 256 = ((part * 2 ^ sh % 256 : Nat) : Int) := by omega
  have h3 : c.toNat ||| (part * 2 ^ sh % 256) < 2 ^ 8 := Nat.or_lt_two_pow (by have := c.toNat_lt; omega) (by omega)
  rw [e1, wrap_nat (by omega), e2, u8_or_nat _ _ c.toNat_lt (by omega)]
  unfold orb
  simp
theorem nbits_join (v a b k : Nat) : nbits (v / 2 ^ k) (a + b) = nbits (v / 2 ^ (k + b)) a ++ nbits (v / 2 ^ k % 2 ^ b) b := by
  apply ext_getD (by simp [nbits_length])
  intro i hi
  rw [nbits_length] at hi
  rw [nbits_getD, if_pos hi, Nat.testBit_div_two_pow]
  by_cases hd : i < a
  · rw [List.getD_eq_getElem?_getD, List.getElem?_append_left (by rw [nbits_length]; exact hd), ← List.getD_eq_getElem?_getD, nbits_getD, if_pos hd, Nat.testBit_div_two_pow]
    congr 1; omega
  · rw [List.getD_eq_getElem?_getD, List.getElem?_append_right (by rw [nbits_length]; omega), nbits_length, ← List.getD_eq_getElem?_getD, nbits_getD, if_pos (by omega), Nat.testBit_mod_two_pow, Nat.testBit_div_two_pow]
    have : decide (b - 1 - (i - a) < b) = true := by simp; omega
    rw [this, Bool.true_and]
    congr 1; omega

set_option maxHeartbeats 8000000 in
set_option maxRecDepth 100000 in
theorem put_any (p v r : Nat) (L : List UInt8) (X : List Bool) (w : World) (B : Nat) (hW : Work w B p L X.length) (hX : Packs L X) (hr : r ≤ 64) (hXr : X.length + r ≤ 1048576) (hv : v < 18446744073709551616) (hB : B ≤ w.heap.size) :
    Calls Try.prog 37 #[.pointer (some ⟨p, 0, none⟩), .int .u64 v, .int .i64 r] w fun e w' => e = .returned (.tuple #[]) ∧ (∃ L', Work w' B p L' (X.length + r : Nat) ∧ Packs L' (X ++ nbits v r)) ∧ Below B w w' ∧ Kept w w' := by
  obtain ⟨i0, hi, hz0, hz1, hz2⟩ := info_parts info_u8
  have HW := Lib.hid hW; have HX := Lib.hid hX
  clear hW hX
  go_enter Try.func37, Try.ntmps37
  go_wp2_with fail
  go_loopw [2, 6, 7, 8] (fun rr _ _ _ wr => ∃ (d : Nat) (L' : List UInt8), d ≤ r ∧ rr = .int .i64 (r - d : Nat) ∧ Work wr B p L' (X.length + d : Nat) ∧ Packs L' (X ++ nbits (v / 2 ^ (r - d)) d) ∧ Below B w wr ∧ Kept w wr) (fun rr _ _ _ _ => (intOf rr).toNat)
  case atStart => exact ⟨0, L, by omega, rfl, HW.out, by simpa [nbits] using HX.out, Below.refl _ _, Kept.refl _⟩
  case round =>
    obtain ⟨d, L', hd, rfl, hwk, hpk, hbl, hkp⟩ := hrel
    by_cases hlt : d < r
    · obtain ⟨Y, hY⟩ : ∃ Y, Y = X ++ nbits (v / 2 ^ (r - d)) d := ⟨_, rfl⟩
      have hYl : Y.length = X.length + d := by rw [hY, List.length_append, nbits_length]
      rw [← hY] at hpk
      rw [← hYl] at hwk
      obtain ⟨q, hq⟩ : ∃ q, q = r - d := ⟨_, rfl⟩
      rw [← hq]
      obtain ⟨N, hN⟩ : ∃ N, N = Y.length := ⟨_, rfl⟩
      rw [← hN] at hwk
      have hNb : N + q ≤ 1048576 := by omega
      have hq64 : q ≤ 64 := by omega
      have hq1 : 1 ≤ q := by omega
      obtain ⟨left, hleft⟩ : ∃ left, left = 8 - N % 8 := ⟨_, rfl⟩
      obtain ⟨step, hstep⟩ : ∃ step, step = min left q := ⟨_, rfl⟩
      obtain ⟨j, hj⟩ : ∃ j, j = N / 8 := ⟨_, rfl⟩
      obtain ⟨sh, hsh⟩ : ∃ sh, sh = left - step := ⟨_, rfl⟩
      obtain ⟨rs, hrs⟩ : ∃ rs, rs = q - step := ⟨_, rfl⟩
      obtain ⟨part, hpart⟩ : ∃ part, part = v / 2 ^ rs % 2 ^ step := ⟨_, rfl⟩
      have e1 : (8 : Int) - (N : Int) % 8 = (left : Int) := by omega
      have e2 : min (left : Int) (q : Int) = (step : Int) := by omega
      have e3 : (left : Int) - (step : Int) = (sh : Int) := by omega
      have e4 : IntKind.i64.wrap (sh : Int) = (sh : Int) := IntWalk.i64_in _ (by omega)
      have e5 : (q : Int) - (step : Int) = (rs : Int) := by omega
      have e6 : IntKind.i64.wrap (rs : Int) = (rs : Int) := IntWalk.i64_in _ (by omega)
      have e7 : (N : Int) / 8 = (j : Int) := by omega
      have e8 : (N : Int).tdiv 8 = (j : Int) := by rw [Int.tdiv_eq_ediv_of_nonneg (by omega)]; exact e7
      have e9 : IntKind.i64.wrap (j : Int) = (j : Int) := IntWalk.i64_in _ (by omega)
      have i0' : (0 : Int) ≤ (j : Int) := by omega
      have l1 : step ≤ 8 := by omega
      have l2 : sh ≤ 8 := by omega
      have l3 : rs ≤ 64 := by omega
      have l4 : 1 ≤ step := by omega
      have l5 : step ≤ q := by omega
      by_cases h8 : N % 8 = 0
      · have z8 : ((N : Int) % 8 == 0) = true := by rw [beq_iff_eq]; omega
        obtain ⟨own, s0, vr, hblk, hrow, hnn⟩ := hwk
        have st : St wr B p L' N s0 vr := ⟨own, hblk, hrow, hnn⟩
        have c1 := st.c1; have c2 := st.c2; have f1 := st.f 1; have f2 := st.f 2
        have ST := Lib.hid st
        have hLb : L'.length ≤ 200000 := by rw [hpk.1]; omega
        obtain ⟨L1, hL1⟩ : ∃ L1, L1 = L' ++ [0] := ⟨_, rfl⟩
        have hinj : j < L1.length := by rw [hL1, List.length_append, hpk.1]; simp; omega
        have HL1 : Hid (L1 = if Y.length % 8 = 0 then L' ++ [0] else L') := Lib.hid (by rw [if_pos (by rw [← hN]; exact h8)]; exact hL1)
        have HL2 := Lib.hid hL1
        have HPK := Lib.hid hpk
        have HPART := Lib.hid hpart
        have HLEFT := Lib.hid hleft; have HSH := Lib.hid hsh; have HRS := Lib.hid hrs; have HJ := Lib.hid hj; have HQ := Lib.hid hq; have HD := Lib.hid hd; have HY := Lib.hid hY; have HN := Lib.hid hN; have H8 := Lib.hid h8; have HSTEP := Lib.hid hstep; have HYL := Lib.hid hYl
        have hpl : part < 2 ^ step := by rw [hpart]; exact Nat.mod_lt _ (Nat.two_pow_pos _)
        have HPL := Lib.hid hpl; clear hpl
        clear hblk hrow hnn st h8 hleft hstep hj hsh hrs hpart hYl hq hlt hd hY hN hpk hL1
        go_wp2_with (at_builtin; refine wpList_append_own _ rfl _ _ 36 rfl B 5 i0 (.int .u8 0) 1 1 Try.underlying36 hi hz0 hz1 hz2 rfl (by decide) _ _ _ rfl (ST.out.row.alloc _) ⟨wr.heap.size, 0, none⟩ 1 1 [.int .u8 0] rfl rfl ?c1 ?c2 ?c3 ?c4 ?c5 ?_)
        case c1 =>
          intro t u ht
          match t, ht with
          | 0, ht => simp at ht; subst ht; simp [Addr.add]
        case c2 => intro u hu; simp at hu; subst hu; rfl
        case c3 => unfold maxLen; omega
        case c4 => omega
        case c5 => have := hbl.size; simp; omega
        intro v' w1 hown' hgrow _
        have hap := ST.out.appended0 _ hgrow hown'
        rw [← HL2.out] at hap
        have k2 := hap.1; have k3 := hap.2.1
        have st2 := hap.2.2.1
        have hap1 := hap.2.2.2
        obtain ⟨g, cap, rfl, hcap⟩ := st2.shape
        have m1 := st2.c1; have m2 := st2.c2; have m3 := st2.f 1
        have mb := st2.byte j hinj
        have BL2 := Lib.hid (((hbl.alloc (by have := hbl.size; omega) (.cells #[.int .u8 0] 5)).grown hgrow (by have := hbl.size; simp; omega) (fun k hk => row_ge ST.out.row k hk)).setCell (p := ⟨p, 2, none⟩) ST.out.own (.slice (some ⟨g, 0, none⟩) L1.length cap))
        have KP2 := Lib.hid (((hkp.alloc (.cells #[.int .u8 0] 5)).grown hgrow (fun g' hg' => row_type (ST.out.alloc (.cells #[.int .u8 0] 5)).row g' hg')).setCell p 2 (.slice (some ⟨g, 0, none⟩) L1.length cap) (fun cs ty fr hk => .inr (by
          rw [hap1] at hk
          simp only [Option.some.injEq, Obj.cells.injEq] at hk
          exact hk.2.1.symm)))
        clear hap1
        have hpv := part_val v rs step hv l1
        rw [HPART.out.symm] at hpv
        obtain ⟨c, hc⟩ : ∃ c, c = L1.getD j 0 := ⟨_, rfl⟩
        rw [← hc] at mb
        have mb1 := mb.1; have mb2 := mb.2
        have i1' : (j : Int) < ((L1.length : Nat) : Int) := by omega
        obtain ⟨y, hy⟩ : ∃ y, y = orb c (part * 2 ^ sh) := ⟨_, rfl⟩
        have hx := or_val c part sh step l1 l2 HPL.out
        rw [← hy] at hx
        have hstep' := put_step HPK.out part step (by have := HSTEP.out; have := HLEFT.out; have := HN.out; omega) l4 HPL.out HL1.out
        have hstep2 : Packs (L1.set j y) (X ++ nbits (v / 2 ^ (r - (d + step))) (d + step)) := by
          have e := hstep'.2
          rw [← HN.out, ← HJ.out, show 8 - N % 8 - step = sh from by have := HLEFT.out; have := HSH.out; omega, ← hc, ← hy, HY.out, List.append_assoc] at e
          have hk : r - (d + step) = rs := by have := HQ.out; have := HRS.out; have := HD.out; omega
          rw [hk, nbits_join, ← HPART.out, show rs + step = r - d from by have := HQ.out; have := HRS.out; have := HD.out; omega]
          exact e
        have HSTEP2 := Lib.hid hstep2
        have ST2 := Lib.hid st2
        have HND : Hid (N = X.length + d) := Lib.hid (by rw [HN.out, HYL.out])
        have HDR : Hid (d + step ≤ r) := Lib.hid (by have := HQ.out; have := HD.out; omega)
        have HRS2 : Hid (rs = r - (d + step)) := Lib.hid (by have := HQ.out; have := HRS.out; have := HD.out; omega)
        clear hap st2 mb hc hy hstep' hstep2
        go_wp2_with fail
        go_quiet (fail)
        go_wp2_with fail
        generalize hW2 : w1.setCell ⟨p, 2, none⟩ (.slice (some ⟨g, 0, none⟩) L1.length cap) = W2 at *
        clear hW2
        go_region
        have st3 := (ST2.out.drewN (nq + 1)).stored j y ((N : Int) + (step : Int))
        have n1 := (St.c1 (ST2.out.drewN (nq + 1)))
        have hne : p ≠ g := fun e => row_ne ST2.out.row ST2.out.block (by rw [e]; rfl)
        have n2 : ((W2.drewN (nq + 1)).setCell ⟨g, j, none⟩ (.int .u8 (y.toNat : Int))).cell? ⟨p, 1, none⟩ = some (.int .i64 (N : Int)) := by
          rw [World.cell?_setCell_other _ _ _ _ (by intro e; apply hne; injection e with e1; exact e1.symm)]; exact n1
        have n3 : ((W2.drewN (nq + 1)).setCell ⟨g, j, none⟩ (.int .u8 (y.toNat : Int))).frozen? ⟨p, 1, none⟩ = false := by
          rw [World.frozen?_setCell]; exact (ST2.out.drewN (nq + 1)).f 1
        have hgB : B ≤ g := row_ge ST2.out.row g rfl
        have bl3 := ((below_drewN BL2.out (nq + 1)).setCell (p := ⟨g, j, none⟩) hgB (.int .u8 (y.toNat : Int))).setCell (p := ⟨p, 1, none⟩) ST2.out.own (.int .i64 ((N : Int) + (step : Int)))
        have kp3 := ((KP2.out.drewN (nq + 1)).setCell g j (.int .u8 (y.toNat : Int)) (row_type (ST2.out.drewN (nq + 1)).row g rfl)).setCell p 1 (.int .i64 ((N : Int) + (step : Int))) (fun cs ty fr hk => by
          rw [heap_setCell_other _ _ _ _ hne] at hk
          have := (ST2.out.drewN (nq + 1)).block
          rw [this] at hk
          simp only [Option.some.injEq, Obj.cells.injEq] at hk
          exact .inr hk.2.1.symm)
        have ST3 := Lib.hid st3; have BL3 := Lib.hid bl3; have KP3 := Lib.hid kp3
        clear st3 bl3 kp3 n1 hne hgB
        go_wp2_with fail
        go_roundw
        case rel => exact ⟨d + step, L1.set j y, HDR.out, by rw [HRS2.out], by have h := ST3.out.work; rw [show ((X.length + (d + step) : Nat) : Int) = (N : Int) + (step : Int) from by have := HND.out; omega]; exact h, HSTEP2.out, BL3.out, KP3.out⟩
        case measure => simp [intOf]; omega
      · have z8 : ((N : Int) % 8 == 0) = false := by rw [beq_eq_false_iff_ne]; omega
        obtain ⟨own, s0, vr, hblk, hrow, hnn⟩ := hwk
        have st : St wr B p L' N s0 vr := ⟨own, hblk, hrow, hnn⟩
        have c1 := st.c1; have c2 := st.c2; have f1 := st.f 1; have f2 := st.f 2
        have ST := Lib.hid st
        have hLb : L'.length ≤ 200000 := by rw [hpk.1]; omega
        obtain ⟨L1, hL1⟩ : ∃ L1, L1 = L' := ⟨_, rfl⟩
        have hinj : j < L1.length := by rw [hL1, hpk.1]; omega
        have HL1 : Hid (L1 = if Y.length % 8 = 0 then L' ++ [0] else L') := Lib.hid (by rw [if_neg (by rw [← hN]; exact h8)]; exact hL1)
        have st2 := ST.out
        rw [← hL1] at st2
        obtain ⟨g, cap, rfl, hcap⟩ := st2.shape
        have m1 := st2.c1; have m2 := st2.c2; have m3 := st2.f 1
        have mb := st2.byte j hinj
        have BL2 := Lib.hid hbl; have KP2 := Lib.hid hkp
        have HPK := Lib.hid hpk
        have HPART := Lib.hid hpart
        have HLEFT := Lib.hid hleft; have HSH := Lib.hid hsh; have HRS := Lib.hid hrs; have HJ := Lib.hid hj; have HQ := Lib.hid hq; have HD := Lib.hid hd; have HY := Lib.hid hY; have HN := Lib.hid hN; have H8 := Lib.hid h8; have HSTEP := Lib.hid hstep; have HYL := Lib.hid hYl
        have hpl : part < 2 ^ step := by rw [hpart]; exact Nat.mod_lt _ (Nat.two_pow_pos _)
        have HPL := Lib.hid hpl; clear hpl
        clear hblk hrow hnn st h8 hleft hstep hj hsh hrs hpart hYl hq hlt hd hY hN hpk hL1
        have hpv := part_val v rs step hv l1
        rw [HPART.out.symm] at hpv
        obtain ⟨c, hc⟩ : ∃ c, c = L1.getD j 0 := ⟨_, rfl⟩
        rw [← hc] at mb
        have mb1 := mb.1; have mb2 := mb.2
        have i1' : (j : Int) < ((L1.length : Nat) : Int) := by omega
        obtain ⟨y, hy⟩ : ∃ y, y = orb c (part * 2 ^ sh) := ⟨_, rfl⟩
        have hx := or_val c part sh step l1 l2 HPL.out
        rw [← hy] at hx
        have hstep' := put_step HPK.out part step (by have := HSTEP.out; have := HLEFT.out; have := HN.out; omega) l4 HPL.out HL1.out
        have hstep2 : Packs (L1.set j y) (X ++ nbits (v / 2 ^ (r - (d + step))) (d + step)) := by
          have e := hstep'.2
          rw [← HN.out, ← HJ.out, show 8 - N % 8 - step = sh from by have := HLEFT.out; have := HSH.out; omega, ← hc, ← hy, HY.out, List.append_assoc] at e
          have hk : r - (d + step) = rs := by have := HQ.out; have := HRS.out; have := HD.out; omega
          rw [hk, nbits_join, ← HPART.out, show rs + step = r - d from by have := HQ.out; have := HRS.out; have := HD.out; omega]
          exact e
        have HSTEP2 := Lib.hid hstep2
        have ST2 := Lib.hid st2
        have HND : Hid (N = X.length + d) := Lib.hid (by rw [HN.out, HYL.out])
        have HDR : Hid (d + step ≤ r) := Lib.hid (by have := HQ.out; have := HD.out; omega)
        have HRS2 : Hid (rs = r - (d + step)) := Lib.hid (by have := HQ.out; have := HRS.out; have := HD.out; omega)
        clear st2 mb hc hy hstep' hstep2
        go_wp2_with fail
        go_quiet (fail)
        go_wp2_with fail
        go_region
        have st3 := (ST2.out.drewN (nq + 1)).stored j y ((N : Int) + (step : Int))
        have n1 := (St.c1 (ST2.out.drewN (nq + 1)))
        have hne : p ≠ g := fun e => row_ne ST2.out.row ST2.out.block (by rw [e]; rfl)
        have n2 : ((wr.drewN (nq + 1)).setCell ⟨g, j, none⟩ (.int .u8 (y.toNat : Int))).cell? ⟨p, 1, none⟩ = some (.int .i64 (N : Int)) := by
          rw [World.cell?_setCell_other _ _ _ _ (by intro e; apply hne; injection e with e1; exact e1.symm)]; exact n1
        have n3 : ((wr.drewN (nq + 1)).setCell ⟨g, j, none⟩ (.int .u8 (y.toNat : Int))).frozen? ⟨p, 1, none⟩ = false := by
          rw [World.frozen?_setCell]; exact (ST2.out.drewN (nq + 1)).f 1
        have hgB : B ≤ g := row_ge ST2.out.row g rfl
        have bl3 := ((below_drewN BL2.out (nq + 1)).setCell (p := ⟨g, j, none⟩) hgB (.int .u8 (y.toNat : Int))).setCell (p := ⟨p, 1, none⟩) ST2.out.own (.int .i64 ((N : Int) + (step : Int)))
        have kp3 := ((KP2.out.drewN (nq + 1)).setCell g j (.int .u8 (y.toNat : Int)) (row_type (ST2.out.drewN (nq + 1)).row g rfl)).setCell p 1 (.int .i64 ((N : Int) + (step : Int))) (fun cs ty fr hk => by
          rw [heap_setCell_other _ _ _ _ hne] at hk
          have := (ST2.out.drewN (nq + 1)).block
          rw [this] at hk
          simp only [Option.some.injEq, Obj.cells.injEq] at hk
          exact .inr hk.2.1.symm)
        have ST3 := Lib.hid st3; have BL3 := Lib.hid bl3; have KP3 := Lib.hid kp3
        clear st3 bl3 kp3 n1 hne hgB
        go_wp2_with fail
        go_roundw
        case rel => exact ⟨d + step, L1.set j y, HDR.out, by rw [HRS2.out], by have h := ST3.out.work; rw [show ((X.length + (d + step) : Nat) : Int) = (N : Int) + (step : Int) from by have := HND.out; omega]; exact h, HSTEP2.out, BL3.out, KP3.out⟩
        case measure => simp [intOf]; omega
    · obtain rfl : d = r := by omega
      have e : nbits (v / 2 ^ (d - d)) d = nbits v d := by rw [Nat.sub_self, Nat.pow_zero, Nat.div_one]
      rw [e] at hpk
      have HPK := Lib.hid hpk; have HWK := Lib.hid hwk
      clear hpk hwk e
      go_wp2_with fail
      go_end0
      exact ⟨rfl, ⟨L', HWK.out, HPK.out⟩, hbl, hkp⟩
end Go.Proofs.Ytgpheofdeflhdaa.Bt
namespace Go.Proofs.Ytgpheofdeflhdaa.Bt
open Go.RowKit

set_option maxHeartbeats 2000000 in
theorem gathered_any (p : Nat) (L : List UInt8) (N : Int) (w : World) (B : Nat) (hW : Work w B p L N) (hL : L.length ≤ 200000) :
    Calls Try.prog 52 #[.pointer (some ⟨p, 0, none⟩)] w fun e w' => ∃ g, e = .returned (.slice (some ⟨g, 0, none⟩) L.length L.length) ∧ (∀ j, j < L.length → w.cell? ⟨g, j, none⟩ = some (.int .u8 ((L.getD j 0).toNat : Int))) ∧ ∃ n, w' = w.drewN n := by
  obtain ⟨own, s0, v, hblk, hrow, hnn⟩ := hW
  have st : St w B p L N s0 v := ⟨own, hblk, hrow, hnn⟩
  obtain ⟨g, cap, rfl, hcap⟩ := st.shape
  have c2 := st.c2
  have F : Hid (∀ j, j < L.length → w.cell? ⟨g, j, none⟩ = some (.int .u8 ((L.getD j 0).toNat : Int))) := Lib.hid (fun j hj => (st.byte j hj).1)
  have hcm : cap ≤ maxLen := by
    rcases hrow.2 with ⟨h0, _⟩ | ⟨g', cap', cur, hv, _, _, _, hm, _⟩
    · cases h0
    · cases hv; exact hm
  unfold maxLen at hcm
  have i1 : (L.length : Int) ≤ (cap : Int) := by omega
  have i0 : (0 : Int) ≤ (L.length : Int) := by omega
  clear st hblk hrow hnn own
  go_enter Try.func52, Try.ntmps52
  go_wp2_with fail
  go_quiet (fail)
  go_wp2_with fail
  go_ret
  exact ⟨g, rfl, F.out, _, rfl⟩

theorem St.c0 {w : World} {B p : Nat} {L : List UInt8} {N : Int} {s0 : ByteArray} {v : Value} (h : St w B p L N s0 v) : w.cell? ⟨p, 0, none⟩ = some (.string s0) := by simp [World.cell?, h.block]
theorem Work.alloc {w : World} {B p : Nat} {L : List UInt8} {N : Int} (h : Work w B p L N) (o : Obj) : Work (w.alloc o) B p L N := by
  obtain ⟨own, s0, v, hblk, hrow, hnn⟩ := h
  have st : St w B p L N s0 v := ⟨own, hblk, hrow, hnn⟩
  exact (st.alloc o).work

set_option maxHeartbeats 2000000 in
theorem done_any (p : Nat) (L : List UInt8) (N : Int) (w : World) (B : Nat) (hW : Work w B p L N) (hL : L.length ≤ 200000) (hB : B ≤ w.heap.size) :
    Calls Try.prog 38 #[.pointer (some ⟨p, 0, none⟩)] w fun e w' => e = .returned (.agg #[.string ⟨L.toArray⟩, .int .i64 N]) ∧ Below B w w' := by
  have HW := Lib.hid hW
  obtain ⟨own, s0, v, hblk, hrow, hnn⟩ := hW
  have st : St w B p L N s0 v := ⟨own, hblk, hrow, hnn⟩
  have ST := Lib.hid st
  have hpz := st.size
  clear hblk hrow hnn st
  go_enter Try.func38, Try.ntmps38
  go_wp2_with fail
  refine (gathered_any p L N _ B (HW.out.alloc _) hL).mono ?_
  rintro e w1 ⟨g, rfl, hcells, n, rfl⟩
  have hbk := run_convert_bytes_back (P := Try.prog) ((w.alloc (.cells #[.string ⟨#[]⟩, .int .i64 0] 48)).drewN n) 36 9 5 ⟨g, 0, none⟩ L.length L Try.underlying36 Try.underlying5 Try.underlying9 (by
    intro j hj
    have e : ((⟨g, 0, none⟩ : Addr).add j) = ⟨g, j, none⟩ := by simp [Addr.add] <;> omega
    rw [e]
    have h2 := hcells j hj
    simp only [List.getD_eq_getElem?_getD, List.getElem?_eq_getElem hj, Option.getD_some] at h2
    exact h2)
  have st1 := (ST.out.alloc (.cells #[.string ⟨#[]⟩, .int .i64 0] 48)).drewN n
  have q0 : ((w.alloc (.cells #[.string ⟨#[]⟩, .int .i64 0] 48)).drewN n).cell? ⟨p, 0, none⟩ = some (.string s0) := st1.c0
  have q1 := st1.c1
  have qf := st1.f 0
  have hb1 : Below B w (((w.alloc (.cells #[.string ⟨#[]⟩, .int .i64 0] 48)).drewN n).setCell ⟨p, 0, none⟩ (.string ⟨L.toArray⟩)) := (below_drewN ((Below.refl B w).alloc hB _) n).setCell (p := ⟨p, 0, none⟩) own _
  have HB := Lib.hid hb1
  clear hcells st1 hb1
  go_wp2_with fail
  have hB2 := (HB.out.setCell (p := ⟨w.heap.size, 0, none⟩) hB (.string ⟨L.toArray⟩)).setCell (p := ⟨w.heap.size, 1, none⟩) hB (.int .i64 N)
  refine bodyPost_ret (v := .agg #[.string ⟨L.toArray⟩, .int .i64 N]) (by simp [results, Try.results38, go_sem]) rfl ⟨rfl, hB2⟩
end Go.Proofs.Ytgpheofdeflhdaa.Bt
namespace Go.Proofs.Ytgpheofdeflhdaa.Bt
open Go.RowKit

theorem packs_ex : ∀ (n : Nat) (X : List Bool), X.length = n → ∃ l, Packs l X
  | 0, X, h => by
    have : X = [] := List.length_eq_zero_iff.1 h
    subst this
    exact ⟨[], rfl, fun i => by rw [bitAt_nil]; simp⟩
  | n + 1, X, h => by
    rcases List.eq_nil_or_concat X with rfl | ⟨Y, b, rfl⟩
    · simp at h
    · rw [List.concat_eq_append] at h ⊢
      obtain ⟨l, hl⟩ := packs_ex n Y (by simp at h; omega)
      have := put_step hl b.toNat 1 (by omega) (by omega) (by cases b <;> decide) rfl
      have e : nbits b.toNat 1 = [b] := by cases b <;> decide
      rw [e] at this
      exact ⟨_, this.2⟩
/-- bits as bytes -/
noncomputable def pack (X : List Bool) : List UInt8 := Classical.choose (packs_ex X.length X rfl)
theorem pack_packs (X : List Bool) : Packs (pack X) X := Classical.choose_spec (packs_ex X.length X rfl)
theorem Packs.eq {l : List UInt8} {X : List Bool} (h : Packs l X) : l = pack X := h.inj (pack_packs X)
noncomputable def packS (X : List Bool) : ByteArray := ⟨(pack X).toArray⟩
theorem packs_of {l : List UInt8} {X : List Bool} (h1 : l.length = (X.length + 7) / 8) (h2 : ∀ i, i < 8 * l.length → bitAt l i = X.getD i false) : Packs l X := by
  refine ⟨h1, fun i => ?_⟩
  by_cases hi : i < 8 * l.length
  · exact h2 i hi
  · rw [bitAt_past l i (by omega), List.getD_eq_getElem?_getD, List.getElem?_eq_none (by omega)]; rfl

noncomputable def putE (s : ByteArray) (n : Int) (v : Nat) (r : Int) : Int := if chk s n ≠ 0 then 2 else if r < 0 ∨ 64 < r ∨ v / 2 ^ r.toNat ≠ 0 then 1 else if 1048576 < n + r then 8 else 0
noncomputable def putS (s : ByteArray) (n : Int) (v : Nat) (r : Int) : ByteArray := if putE s n v r = 0 then packS (bl (bytes s) n.toNat ++ nbits v r.toNat) else if putE s n v r = 2 then ⟨#[]⟩ else s
noncomputable def putN (s : ByteArray) (n : Int) (v : Nat) (r : Int) : Int := if putE s n v r = 0 then n + r else if putE s n v r = 2 then 0 else n
theorem ret_bit {s t : ByteArray} {a b c d : Int} (h : s = t) (k : a = c) (l : b = d) : Ending.returned (.tuple #[.agg #[.string s, .int .i64 a], .int .i64 b]) = .returned (.tuple #[.agg #[.string t, .int .i64 c], .int .i64 d]) := by rw [h, k, l]

set_option maxHeartbeats 1000000 in
theorem same_any (s : ByteArray) (n : Int) (w : World) (hs : s.size ≤ 281474976710656) :
    Calls Try.prog 35 #[.agg #[.string s, .int .i64 n]] w fun e w' => e = .returned (.agg #[.string s, .int .i64 n]) ∧ Below w.heap.size w w' := by
  have hbx : Below w.heap.size w (w.alloc (.cells #[.string s, .int .i64 n] 48)) := (Below.refl _ _).alloc (Nat.le_refl _) _
  go_enter Try.func35, Try.ntmps35
  go_wp2_with fail
  obtain ⟨W0, hW0⟩ : ∃ W0, W0 = (w.alloc (.cells #[.string s, .int .i64 n] 48)).alloc (.cells #[.string ⟨#[]⟩, .int .i64 0] 48) := ⟨_, rfl⟩
  rw [← hW0]
  have b0 : Below w.heap.size w W0 := by rw [hW0]; exact hbx.alloc (by simp) _
  have z0 : w.heap.size + 1 < W0.heap.size := by rw [hW0]; simp
  have g : W0.cell? ⟨w.heap.size, 0, none⟩ = some (.string s) ∧ W0.cell? ⟨w.heap.size, 1, none⟩ = some (.int .i64 n) ∧ W0.cell? ⟨w.heap.size + 1, 0, none⟩ = some (.string ⟨#[]⟩) ∧ W0.cell? ⟨w.heap.size + 1, 1, none⟩ = some (.int .i64 0) ∧ W0.frozen? ⟨w.heap.size + 1, 0, none⟩ = false ∧ W0.frozen? ⟨w.heap.size + 1, 1, none⟩ = false := by
    rw [hW0]
    refine ⟨by simp, by simp, by simp, by simp, by simp [go_sem], by simp [go_sem]⟩
  clear hW0 hbx
  have HB := Lib.hid b0; clear b0
  have ga := g.1; have gb := g.2.1
  go_region_held3 (fun W => W.cell? ⟨w.heap.size, 0, none⟩ = some (.string s) ∧ W.cell? ⟨w.heap.size, 1, none⟩ = some (.int .i64 n)) (first | exact ⟨ga, gb⟩ | exact ⟨G.1, G.2.1⟩ | (refine ⟨?_, ?_⟩ <;> simp [go_sem, G.1, G.2.1])) (first | (go_at_call 30; refine (Cln.clone_any s _ hs).mono ?_; rintro e w1 ⟨rfl, hb⟩; have G : w1.cell? ⟨w.heap.size, 0, none⟩ = some (.string s) ∧ w1.cell? ⟨w.heap.size, 1, none⟩ = some (.int .i64 n) ∧ w1.cell? ⟨w.heap.size + 1, 0, none⟩ = some (.string ⟨#[]⟩) ∧ w1.cell? ⟨w.heap.size + 1, 1, none⟩ = some (.int .i64 0) ∧ w1.frozen? ⟨w.heap.size + 1, 0, none⟩ = false ∧ w1.frozen? ⟨w.heap.size + 1, 1, none⟩ = false := ⟨by rw [hb.cell (by show w.heap.size < W0.heap.size; omega)]; exact g.1, by rw [hb.cell (by show w.heap.size < W0.heap.size; omega)]; exact g.2.1, by rw [hb.cell z0]; exact g.2.2.1, by rw [hb.cell z0]; exact g.2.2.2.1, by rw [hb.frozen z0]; exact g.2.2.2.2.1, by rw [hb.frozen z0]; exact g.2.2.2.2.2⟩))
  have hB1 : Below w.heap.size w w1 := HB.out.trans (Below.trans (⟨rfl, rfl, rfl, Nat.le_refl _, fun _ _ => rfl⟩ : Below w.heap.size W0 W0.drew) (hb.mono (by show w.heap.size ≤ W0.heap.size; omega)))
  have hB2 := (hB1.setCell (p := ⟨w.heap.size + 1, 0, none⟩) (Nat.le_succ _) (.string s)).setCell (p := ⟨w.heap.size + 1, 1, none⟩) (Nat.le_succ _) (.int .i64 n)
  have HB2 := Lib.hid hB2
  have G3 := G.2.2.1; have G4 := G.2.2.2.1
  clear hB1 hB2 hb g ga gb G
  go_wp2_with fail
  refine bodyPost_ret (v := .agg #[.string s, .int .i64 n]) (by simp [results, Try.results35, go_sem, G3, G4]) rfl ⟨rfl, HB2.out⟩
end Go.Proofs.Ytgpheofdeflhdaa.Bt
namespace Go.Proofs.Ytgpheofdeflhdaa.Bt
open Go.RowKit

theorem size_small {s : ByteArray} {n : Int} (h : Right (bytes s) n) : s.size ≤ 200000 := by
  have h1 := h.2.2.1
  have h2 := h.2.1
  have h3 := h.1
  rw [bytes_len] at h1
  omega
theorem div_zero_iff (v r : Nat) : v / 2 ^ r = 0 ↔ v < 2 ^ r := by
  constructor
  · intro h
    rcases Nat.lt_or_ge v (2 ^ r) with h1 | h1
    · exact h1
    · have := Nat.div_pos h1 (Nat.two_pow_pos r); omega
  · exact Nat.div_eq_of_lt

set_option maxHeartbeats 4000000 in
theorem put_top (s : ByteArray) (n : Int) (v : Nat) (r : Int) (w : World) (hs : s.size ≤ maxLen) (hv : v < 18446744073709551616) :
    Calls Try.prog 14 #[.agg #[.string s, .int .i64 n], .int .u64 v, .int .i64 r] w fun e w' => e = .returned (.tuple #[.agg #[.string (putS s n v r), .int .i64 (putN s n v r)], .int .i64 (putE s n v r)]) ∧ Below w.heap.size w w' := by
  have hbx : Below w.heap.size w ((w.alloc (.cells #[.string s, .int .i64 n] 48)).alloc (.cells #[.string ⟨#[]⟩, .int .i64 0] 48)) := ((Below.refl _ _).alloc (Nat.le_refl _) _).alloc (by simp) _
  rcases chk_cases s n with hc | hc
  case inr =>
    have e1 : putE s n v r = 2 := if_pos (by omega)
    have FS : Hid (putS s n v r = ⟨#[]⟩ ∧ putN s n v r = 0 ∧ putE s n v r = 2) := Lib.hid ⟨by unfold putS; rw [if_neg (by omega), if_pos e1], by unfold putN; rw [if_neg (by omega), if_pos e1], e1⟩
    clear e1
    go_enter Try.func14, Try.ntmps14
    go_wp2_with fail
    refine (check_any _ _ _ hs).mono ?_
    rintro e w1 ⟨rfl, b1⟩
    have b2 := hbx.trans (b1.mono (by simp; omega))
    have q0 : w1.cell? ⟨w.heap.size + 1, 0, none⟩ = some (.string ⟨#[]⟩) := by rw [b1.cell (by simp)]; simp
    have q1 : w1.cell? ⟨w.heap.size + 1, 1, none⟩ = some (.int .i64 0) := by rw [b1.cell (by simp)]; simp
    have p0 : w1.frozen? ⟨w.heap.size + 1, 0, none⟩ = false := by rw [b1.frozen (by simp)]; simp [go_sem]
    have p1 : w1.frozen? ⟨w.heap.size + 1, 1, none⟩ = false := by rw [b1.frozen (by simp)]; simp [go_sem]
    have c0 : w1.cell? ⟨w.heap.size, 0, none⟩ = some (.string s) := by rw [b1.cell (by simp; omega)]; simp
    have c1 : w1.cell? ⟨w.heap.size, 1, none⟩ = some (.int .i64 n) := by rw [b1.cell (by simp; omega)]; simp
    rw [hc]
    clear b1
    go_wp2_with fail
    have b3 := Lib.hid ((b2.setCell (p := ⟨w.heap.size + 1, 0, none⟩) (Nat.le_succ _) (.string ⟨#[]⟩)).setCell (p := ⟨w.heap.size + 1, 1, none⟩) (Nat.le_succ _) (.int .i64 0))
    refine bodyPost_ret (v := .tuple #[.agg #[.string ⟨#[]⟩, .int .i64 0], .int .i64 2]) (by simp [results, Try.results14, go_sem, q0, q1]) rfl ⟨ret_bit FS.out.1.symm FS.out.2.1.symm FS.out.2.2.symm, b3.out⟩
  have hR := chk_zero hc
  have hsm := size_small hR
  obtain ⟨m, rfl⟩ := Int.eq_ofNat_of_zero_le hR.1
  have hm : m ≤ 1048576 := by have := hR.2.1; omega
  by_cases hbad : r < 0 ∨ 64 < r ∨ v / 2 ^ r.toNat ≠ 0
  · have e1 : putE s m v r = 1 := by unfold putE; rw [if_neg (by omega), if_pos hbad]
    have FS : Hid (putS s m v r = s ∧ putN s m v r = m ∧ putE s m v r = 1) := Lib.hid ⟨by unfold putS; rw [if_neg (by omega), if_neg (by omega)], by unfold putN; rw [if_neg (by omega), if_neg (by omega)], e1⟩
    clear e1 hR
    by_cases q1 : r < 0
    · go_enter Try.func14, Try.ntmps14
      go_wp2_with fail
      refine (check_any _ _ _ hs).mono ?_
      rintro e w1 ⟨rfl, b1⟩
      have b2 := hbx.trans (b1.mono (by simp; omega))
      have q0 : w1.cell? ⟨w.heap.size + 1, 0, none⟩ = some (.string ⟨#[]⟩) := by rw [b1.cell (by simp)]; simp
      have q1 : w1.cell? ⟨w.heap.size + 1, 1, none⟩ = some (.int .i64 0) := by rw [b1.cell (by simp)]; simp
      have p0 : w1.frozen? ⟨w.heap.size + 1, 0, none⟩ = false := by rw [b1.frozen (by simp)]; simp [go_sem]
      have p1 : w1.frozen? ⟨w.heap.size + 1, 1, none⟩ = false := by rw [b1.frozen (by simp)]; simp [go_sem]
      have c0 : w1.cell? ⟨w.heap.size, 0, none⟩ = some (.string s) := by rw [b1.cell (by simp; omega)]; simp
      have c1 : w1.cell? ⟨w.heap.size, 1, none⟩ = some (.int .i64 m) := by rw [b1.cell (by simp; omega)]; simp
      have z1 : w.heap.size + 1 < w1.heap.size := Nat.lt_of_lt_of_le (by simp) b1.size
      rw [hc]
      clear b1
      go_wp2_with fail
      refine (same_any s m _ (by omega)).mono ?_
      rintro e w2 ⟨rfl, b3⟩
      have b4 := b2.trans (b3.mono b2.size)
      have r0 : w2.cell? ⟨w.heap.size + 1, 0, none⟩ = some (.string ⟨#[]⟩) := by rw [b3.cell z1]; exact q0
      have r1 : w2.cell? ⟨w.heap.size + 1, 1, none⟩ = some (.int .i64 0) := by rw [b3.cell z1]; exact q1
      have s0' : w2.frozen? ⟨w.heap.size + 1, 0, none⟩ = false := by rw [b3.frozen z1]; exact p0
      have s1' : w2.frozen? ⟨w.heap.size + 1, 1, none⟩ = false := by rw [b3.frozen z1]; exact p1
      have b5 := Lib.hid ((b4.setCell (p := ⟨w.heap.size + 1, 0, none⟩) (Nat.le_succ _) (.string s)).setCell (p := ⟨w.heap.size + 1, 1, none⟩) (Nat.le_succ _) (.int .i64 m))
      clear b2 b3 b4 q0 q1 p0 p1 c0 c1
      go_wp2_with fail
      refine bodyPost_ret (v := .tuple #[.agg #[.string s, .int .i64 m], .int .i64 1]) (by simp [results, Try.results14, go_sem, r0, r1]) rfl ⟨ret_bit FS.out.1.symm FS.out.2.1.symm FS.out.2.2.symm, b5.out⟩
    by_cases q2 : 64 < r
    · go_enter Try.func14, Try.ntmps14
      go_wp2_with fail
      refine (check_any _ _ _ hs).mono ?_
      rintro e w1 ⟨rfl, b1⟩
      have b2 := hbx.trans (b1.mono (by simp; omega))
      have q0 : w1.cell? ⟨w.heap.size + 1, 0, none⟩ = some (.string ⟨#[]⟩) := by rw [b1.cell (by simp)]; simp
      have q1 : w1.cell? ⟨w.heap.size + 1, 1, none⟩ = some (.int .i64 0) := by rw [b1.cell (by simp)]; simp
      have p0 : w1.frozen? ⟨w.heap.size + 1, 0, none⟩ = false := by rw [b1.frozen (by simp)]; simp [go_sem]
      have p1 : w1.frozen? ⟨w.heap.size + 1, 1, none⟩ = false := by rw [b1.frozen (by simp)]; simp [go_sem]
      have c0 : w1.cell? ⟨w.heap.size, 0, none⟩ = some (.string s) := by rw [b1.cell (by simp; omega)]; simp
      have c1 : w1.cell? ⟨w.heap.size, 1, none⟩ = some (.int .i64 m) := by rw [b1.cell (by simp; omega)]; simp
      have z1 : w.heap.size + 1 < w1.heap.size := Nat.lt_of_lt_of_le (by simp) b1.size
      rw [hc]
      clear b1
      go_wp2_with fail
      refine (same_any s m _ (by omega)).mono ?_
      rintro e w2 ⟨rfl, b3⟩
      have b4 := b2.trans (b3.mono b2.size)
      have r0 : w2.cell? ⟨w.heap.size + 1, 0, none⟩ = some (.string ⟨#[]⟩) := by rw [b3.cell z1]; exact q0
      have r1 : w2.cell? ⟨w.heap.size + 1, 1, none⟩ = some (.int .i64 0) := by rw [b3.cell z1]; exact q1
      have s0' : w2.frozen? ⟨w.heap.size + 1, 0, none⟩ = false := by rw [b3.frozen z1]; exact p0
      have s1' : w2.frozen? ⟨w.heap.size + 1, 1, none⟩ = false := by rw [b3.frozen z1]; exact p1
      have b5 := Lib.hid ((b4.setCell (p := ⟨w.heap.size + 1, 0, none⟩) (Nat.le_succ _) (.string s)).setCell (p := ⟨w.heap.size + 1, 1, none⟩) (Nat.le_succ _) (.int .i64 m))
      clear b2 b3 b4 q0 q1 p0 p1 c0 c1
      go_wp2_with fail
      refine bodyPost_ret (v := .tuple #[.agg #[.string s, .int .i64 m], .int .i64 1]) (by simp [results, Try.results14, go_sem, r0, r1]) rfl ⟨ret_bit FS.out.1.symm FS.out.2.1.symm FS.out.2.2.symm, b5.out⟩
    obtain ⟨r, rfl⟩ := Int.eq_ofNat_of_zero_le (show 0 ≤ r by omega)
    rw [Int.toNat_natCast] at hbad
    have q3 : ((v : Int) / 2 ^ r != 0) = true := by
      have e : (v : Int) / 2 ^ r = ((v / 2 ^ r : Nat) : Int) := by simp
      rw [bne_iff_ne, e]; omega
    clear hbad
    go_enter Try.func14, Try.ntmps14
    go_wp2_with fail
    refine (check_any _ _ _ hs).mono ?_
    rintro e w1 ⟨rfl, b1⟩
    have b2 := hbx.trans (b1.mono (by simp; omega))
    have q0 : w1.cell? ⟨w.heap.size + 1, 0, none⟩ = some (.string ⟨#[]⟩) := by rw [b1.cell (by simp)]; simp
    have q1 : w1.cell? ⟨w.heap.size + 1, 1, none⟩ = some (.int .i64 0) := by rw [b1.cell (by simp)]; simp
    have p0 : w1.frozen? ⟨w.heap.size + 1, 0, none⟩ = false := by rw [b1.frozen (by simp)]; simp [go_sem]
    have p1 : w1.frozen? ⟨w.heap.size + 1, 1, none⟩ = false := by rw [b1.frozen (by simp)]; simp [go_sem]
    have c0 : w1.cell? ⟨w.heap.size, 0, none⟩ = some (.string s) := by rw [b1.cell (by simp; omega)]; simp
    have c1 : w1.cell? ⟨w.heap.size, 1, none⟩ = some (.int .i64 m) := by rw [b1.cell (by simp; omega)]; simp
    have z1 : w.heap.size + 1 < w1.heap.size := Nat.lt_of_lt_of_le (by simp) b1.size
    rw [hc]
    clear b1
    go_wp2_with fail
    refine (same_any s m _ (by omega)).mono ?_
    rintro e w2 ⟨rfl, b3⟩
    have b4 := b2.trans (b3.mono b2.size)
    have r0 : w2.cell? ⟨w.heap.size + 1, 0, none⟩ = some (.string ⟨#[]⟩) := by rw [b3.cell z1]; exact q0
    have r1 : w2.cell? ⟨w.heap.size + 1, 1, none⟩ = some (.int .i64 0) := by rw [b3.cell z1]; exact q1
    have s0' : w2.frozen? ⟨w.heap.size + 1, 0, none⟩ = false := by rw [b3.frozen z1]; exact p0
    have s1' : w2.frozen? ⟨w.heap.size + 1, 1, none⟩ = false := by rw [b3.frozen z1]; exact p1
    have b5 := Lib.hid ((b4.setCell (p := ⟨w.heap.size + 1, 0, none⟩) (Nat.le_succ _) (.string s)).setCell (p := ⟨w.heap.size + 1, 1, none⟩) (Nat.le_succ _) (.int .i64 m))
    clear b2 b3 b4 q0 q1 p0 p1 c0 c1
    go_wp2_with fail
    refine bodyPost_ret (v := .tuple #[.agg #[.string s, .int .i64 m], .int .i64 1]) (by simp [results, Try.results14, go_sem, r0, r1]) rfl ⟨ret_bit FS.out.1.symm FS.out.2.1.symm FS.out.2.2.symm, b5.out⟩
  obtain ⟨r, rfl⟩ := Int.eq_ofNat_of_zero_le (show 0 ≤ r by omega)
  rw [Int.toNat_natCast] at hbad
  have hr : r ≤ 64 := by omega
  have hv0 : v / 2 ^ r = 0 := by omega
  have q3 : ((v : Int) / 2 ^ r != 0) = false := by
    have e : (v : Int) / 2 ^ r = ((v / 2 ^ r : Nat) : Int) := by simp
    rw [bne_eq_false_iff_eq, e, hv0]; rfl
  by_cases q4 : 1048576 < (m : Int) + (r : Int)
  · have e1 : putE s m v r = 8 := by unfold putE; rw [if_neg (by omega), if_neg (by rw [Int.toNat_natCast]; exact hbad), if_pos q4]
    have FS : Hid (putS s m v r = s ∧ putN s m v r = m ∧ putE s m v r = 8) := Lib.hid ⟨by unfold putS; rw [if_neg (by omega), if_neg (by omega)], by unfold putN; rw [if_neg (by omega), if_neg (by omega)], e1⟩
    clear e1 hR hbad hv0
    go_enter Try.func14, Try.ntmps14
    go_wp2_with fail
    refine (check_any _ _ _ hs).mono ?_
    rintro e w1 ⟨rfl, b1⟩
    have b2 := hbx.trans (b1.mono (by simp; omega))
    have q0 : w1.cell? ⟨w.heap.size + 1, 0, none⟩ = some (.string ⟨#[]⟩) := by rw [b1.cell (by simp)]; simp
    have q1 : w1.cell? ⟨w.heap.size + 1, 1, none⟩ = some (.int .i64 0) := by rw [b1.cell (by simp)]; simp
    have p0 : w1.frozen? ⟨w.heap.size + 1, 0, none⟩ = false := by rw [b1.frozen (by simp)]; simp [go_sem]
    have p1 : w1.frozen? ⟨w.heap.size + 1, 1, none⟩ = false := by rw [b1.frozen (by simp)]; simp [go_sem]
    have c0 : w1.cell? ⟨w.heap.size, 0, none⟩ = some (.string s) := by rw [b1.cell (by simp; omega)]; simp
    have c1 : w1.cell? ⟨w.heap.size, 1, none⟩ = some (.int .i64 m) := by rw [b1.cell (by simp; omega)]; simp
    have z1 : w.heap.size + 1 < w1.heap.size := Nat.lt_of_lt_of_le (by simp) b1.size
    rw [hc]
    clear b1
    go_wp2_with fail
    refine (same_any s m _ (by omega)).mono ?_
    rintro e w2 ⟨rfl, b3⟩
    have b4 := b2.trans (b3.mono b2.size)
    have r0 : w2.cell? ⟨w.heap.size + 1, 0, none⟩ = some (.string ⟨#[]⟩) := by rw [b3.cell z1]; exact q0
    have r1 : w2.cell? ⟨w.heap.size + 1, 1, none⟩ = some (.int .i64 0) := by rw [b3.cell z1]; exact q1
    have s0' : w2.frozen? ⟨w.heap.size + 1, 0, none⟩ = false := by rw [b3.frozen z1]; exact p0
    have s1' : w2.frozen? ⟨w.heap.size + 1, 1, none⟩ = false := by rw [b3.frozen z1]; exact p1
    have b5 := Lib.hid ((b4.setCell (p := ⟨w.heap.size + 1, 0, none⟩) (Nat.le_succ _) (.string s)).setCell (p := ⟨w.heap.size + 1, 1, none⟩) (Nat.le_succ _) (.int .i64 m))
    clear b2 b3 b4 q0 q1 p0 p1 c0 c1
    go_wp2_with fail
    refine bodyPost_ret (v := .tuple #[.agg #[.string s, .int .i64 m], .int .i64 8]) (by simp [results, Try.results14, go_sem, r0, r1]) rfl ⟨ret_bit FS.out.1.symm FS.out.2.1.symm FS.out.2.2.symm, b5.out⟩
  have e1 : putE s m v r = 0 := by unfold putE; rw [if_neg (by omega), if_neg (by rw [Int.toNat_natCast]; exact hbad), if_neg q4]
  have FS : Hid (putS s m v r = packS (bl (bytes s) m ++ nbits v r) ∧ putN s m v r = m + r ∧ putE s m v r = 0) := Lib.hid ⟨by unfold putS; rw [if_pos e1, Int.toNat_natCast, Int.toNat_natCast], by unfold putN; rw [if_pos e1], e1⟩
  have hp := hR.packs
  rw [Int.toNat_natCast] at hp
  have hl := bl_length (bytes s) m
  have hsz : s.size = (m + 7) / 8 := by have := hR.2.2.1; rw [bytes_len] at this; simpa using this
  generalize bl (bytes s) m = X at hp hl FS
  have HP := Lib.hid hp
  have HL := Lib.hid hl
  have HSZ := Lib.hid hsz
  clear e1 hbad hR hp hl hsz hv0
  go_enter Try.func14, Try.ntmps14
  go_wp2_with fail
  refine (check_any _ _ _ hs).mono ?_
  rintro e w1 ⟨rfl, b1⟩
  have b2 := hbx.trans (b1.mono (by simp; omega))
  have q0 : w1.cell? ⟨w.heap.size + 1, 0, none⟩ = some (.string ⟨#[]⟩) := by rw [b1.cell (by simp)]; simp
  have q1 : w1.cell? ⟨w.heap.size + 1, 1, none⟩ = some (.int .i64 0) := by rw [b1.cell (by simp)]; simp
  have p0 : w1.frozen? ⟨w.heap.size + 1, 0, none⟩ = false := by rw [b1.frozen (by simp)]; simp [go_sem]
  have p1 : w1.frozen? ⟨w.heap.size + 1, 1, none⟩ = false := by rw [b1.frozen (by simp)]; simp [go_sem]
  have c0 : w1.cell? ⟨w.heap.size, 0, none⟩ = some (.string s) := by rw [b1.cell (by simp; omega)]; simp
  have c1 : w1.cell? ⟨w.heap.size, 1, none⟩ = some (.int .i64 m) := by rw [b1.cell (by simp; omega)]; simp
  have z1 : w.heap.size + 1 < w1.heap.size := Nat.lt_of_lt_of_le (by simp) b1.size
  rw [hc]
  clear b1
  go_wp2_with fail
  have HB2 := Lib.hid b2
  refine (begin_any s m ((m : Int) + (r : Int)) (by omega) (by omega) (by have := HSZ.out; omega) _ w1.heap.size (Nat.le_refl _)).mono ?_
  rintro e w2 ⟨p, rfl, hwk, b3⟩
  have HWK := Lib.hid hwk; have HB3 := Lib.hid b3
  clear hwk b3 b2 c0 c1
  go_wp2_with fail
  refine (put_any p v r (bytes s) X w2 w1.heap.size (by rw [HL.out]; exact HWK.out) HP.out hr (by rw [HL.out]; omega) hv (HB3.out.size)).mono ?_
  rintro e w3 ⟨rfl, ⟨L', hwk2, hpk2⟩, b4, _⟩
  have hL' : L'.length ≤ 200000 := by rw [hpk2.1, List.length_append, HL.out, nbits_length]; omega
  have hpe := hpk2.eq
  have HWK2 := Lib.hid hwk2; have HB4 := Lib.hid (HB3.out.trans b4); have HPE := Lib.hid hpe
  clear hwk2 hpk2 b4 hpe
  go_wp2_with fail
  refine (done_any p L' _ w3 w1.heap.size HWK2.out hL' HB4.out.size).mono ?_
  rintro e w4 ⟨rfl, b5⟩
  have b6 := HB4.out.trans b5
  have r0 : w4.cell? ⟨w.heap.size + 1, 0, none⟩ = some (.string ⟨#[]⟩) := by rw [b6.cell z1]; exact q0
  have r1 : w4.cell? ⟨w.heap.size + 1, 1, none⟩ = some (.int .i64 0) := by rw [b6.cell z1]; exact q1
  have s0' : w4.frozen? ⟨w.heap.size + 1, 0, none⟩ = false := by rw [b6.frozen z1]; exact p0
  have s1' : w4.frozen? ⟨w.heap.size + 1, 1, none⟩ = false := by rw [b6.frozen z1]; exact p1
  have b7 := HB2.out.trans (b6.mono HB2.out.size)
  obtain ⟨S, hS⟩ : ∃ S : ByteArray, S = ⟨L'.toArray⟩ := ⟨_, rfl⟩
  rw [← hS]
  obtain ⟨K, hK⟩ : ∃ K : Int, K = ((X.length + r : Nat) : Int) := ⟨_, rfl⟩
  rw [← hK]
  have FS2 : Hid (putS s m v r = S ∧ putN s m v r = K) := Lib.hid ⟨by rw [FS.out.1, hS, HPE.out]; rfl, by rw [FS.out.2.1, hK, HL.out]; omega⟩
  have b8 := Lib.hid ((b7.setCell (p := ⟨w.heap.size + 1, 0, none⟩) (Nat.le_succ _) (.string S)).setCell (p := ⟨w.heap.size + 1, 1, none⟩) (Nat.le_succ _) (.int .i64 K))
  clear b5 b6 b7 q0 q1 p0 p1 hS hK
  go_wp2_with fail
  refine bodyPost_ret (v := .tuple #[.agg #[.string S, .int .i64 K], .int .i64 0]) (by simp [results, Try.results14, go_sem, r0, r1]) rfl ⟨ret_bit FS2.out.1.symm FS2.out.2.symm FS.out.2.2.symm, b8.out⟩
end Go.Proofs.Ytgpheofdeflhdaa.Bt
namespace Go.Proofs.Ytgpheofdeflhdaa.Bt
open Go.RowKit

theorem packS_of {l : List UInt8} {X : List Bool} (h : Packs l X) : packS X = ⟨l.toArray⟩ := by unfold packS; rw [← h.eq]
/-- a variable that holds bits -/
structure Box (w : World) (g : Nat) (s : ByteArray) (n : Int) : Prop where
  lt : g < w.heap.size
  c0 : w.cell? ⟨g, 0, none⟩ = some (.string s)
  c1 : w.cell? ⟨g, 1, none⟩ = some (.int .i64 n)
  f0 : w.frozen? ⟨g, 0, none⟩ = false
  f1 : w.frozen? ⟨g, 1, none⟩ = false
theorem Box.new (w : World) (s : ByteArray) (n : Int) : Box (w.alloc (.cells #[.string s, .int .i64 n] 48)) w.heap.size s n := ⟨by simp, by simp, by simp, by simp [go_sem], by simp [go_sem]⟩
theorem Box.below {w w' : World} {g : Nat} {s : ByteArray} {n : Int} (h : Box w g s n) (hb : Below w.heap.size w w') : Box w' g s n :=
  ⟨Nat.lt_of_lt_of_le h.lt hb.size, by rw [hb.cell h.lt]; exact h.c0, by rw [hb.cell h.lt]; exact h.c1, by rw [hb.frozen h.lt]; exact h.f0, by rw [hb.frozen h.lt]; exact h.f1⟩
theorem Box.alloc {w : World} {g : Nat} {s : ByteArray} {n : Int} (h : Box w g s n) (o : Obj) : Box (w.alloc o) g s n := h.below ((Below.refl _ _).alloc (Nat.le_refl _) _)
theorem Box.set {w : World} {g : Nat} {s : ByteArray} {n : Int} (h : Box w g s n) (t : ByteArray) (m : Int) : Box ((w.setCell ⟨g, 0, none⟩ (.string t)).setCell ⟨g, 1, none⟩ (.int .i64 m)) g t m := by
  have e : (⟨g, 0, none⟩ : Addr) ≠ ⟨g, 1, none⟩ := by intro h; injection h with _ h; cases h
  have h1 : (w.setCell ⟨g, 0, none⟩ (.string t)).cell? ⟨g, 1, none⟩ = some (.int .i64 n) := by rw [World.cell?_setCell_other _ _ _ _ e]; exact h.c1
  refine ⟨by simpa using h.lt, ?_, World.cell?_setCell_same _ _ _ h1, by rw [World.frozen?_setCell, World.frozen?_setCell]; exact h.f0, by rw [World.frozen?_setCell, World.frozen?_setCell]; exact h.f1⟩
  rw [World.cell?_setCell_other _ _ _ _ e.symm]
  exact World.cell?_setCell_same _ _ _ h.c0
theorem px1 : putE ⟨#[]⟩ 0 5 3 = 0 := by decide +kernel
theorem px2 : putS ⟨#[]⟩ 0 5 3 = ⟨#[160]⟩ := by unfold putS; rw [if_pos px1]; exact packS_of (l := [160]) (packs_of (by decide +kernel) (by decide +kernel))
theorem px3 : putN ⟨#[]⟩ 0 5 3 = 3 := by unfold putN; rw [if_pos px1]; rfl
theorem px4 : putE ⟨#[160]⟩ 3 1 2 = 0 := by decide +kernel
theorem px5 : putS ⟨#[160]⟩ 3 1 2 = ⟨#[168]⟩ := by unfold putS; rw [if_pos px4]; exact packS_of (l := [168]) (packs_of (by decide +kernel) (by decide +kernel))
theorem px6 : putN ⟨#[160]⟩ 3 1 2 = 5 := by unfold putN; rw [if_pos px4]; rfl
theorem px7 : getV ⟨#[168]⟩ 5 1 3 = 2 ∧ getE ⟨#[168]⟩ 5 1 3 = 0 := by decide +kernel
theorem px8 : putE ⟨#[168]⟩ 5 4 2 = 1 := by decide +kernel
theorem px9 : getE ⟨#[168]⟩ 5 3 3 = 5 := by decide +kernel
theorem px10 : chk ⟨#[]⟩ 1 = 2 := by decide +kernel
theorem small {n : Nat} (h : n ≤ 1000) : n ≤ maxLen := by unfold maxLen; omega

end Go.Proofs.Ytgpheofdeflhdaa.Bt
