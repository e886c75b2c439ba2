/- The walks of isName, sectorsOf, Compare, place. -/
import Derived.Test.YtgpheofdeflhdaaDkMath
import Derived.Test.YtgpheofdeflhdaaClone
import Derived.Test.YtgpheofdeflhdaaRd
import Derived.WalkSpells
import Derived.WalkLawsBesides
import Derived.Lib.Walk
import Derived.Lib.Hide
import Derived.Deep.QuietTactic
import Derived.BigQuiet
import Derived.RegionTactic
import Derived.Deep.RegionHeld3
namespace Go.Proofs.Ytgpheofdeflhdaa.Dk
open Go.RowKit Go.Op

/-- a slice of extents, as it is read -/
def ExtAt (w : World) (p : Option Addr) (E : List Ext) : Prop := ∀ i, i < E.length → ∃ g o, p = some ⟨g, o, none⟩ ∧ g < w.heap.size ∧ w.cell? ⟨g, o + i * 2, none⟩ = some (.string (E.getD i default).1) ∧ w.cell? ⟨g, o + i * 2 + 1, none⟩ = some (.string (E.getD i default).2) ∧ (E.getD i default).1.size ≤ 140737488355328 ∧ (E.getD i default).2.size ≤ 140737488355328
theorem ExtAt.below {w w' : World} {p : Option Addr} {E : List Ext} (h : ExtAt w p E) (hb : Below w.heap.size w w') : ExtAt w' p E := fun i hi => by
  obtain ⟨g, o, e, hg, c, d, hs⟩ := h i hi
  exact ⟨g, o, e, Nat.lt_of_lt_of_le hg hb.size, by rw [hb.cell hg]; exact c, by rw [hb.cell hg]; exact d, hs⟩
/-- a slice of writes -/
def WrsAt (w : World) (p : Option Addr) (L : List Wr) : Prop := ∀ i, i < L.length → ∃ g o, p = some ⟨g, o, none⟩ ∧ g < w.heap.size ∧ w.cell? ⟨g, o + i * 3, none⟩ = some (.string (L.getD i default).1) ∧ w.cell? ⟨g, o + i * 3 + 1, none⟩ = some (.int .i64 (L.getD i default).2.1) ∧ w.cell? ⟨g, o + i * 3 + 2, none⟩ = some (.string (L.getD i default).2.2) ∧ (L.getD i default).1.size ≤ 140737488355328 ∧ (L.getD i default).2.2.size ≤ 140737488355328
theorem WrsAt.below {w w' : World} {p : Option Addr} {L : List Wr} (h : WrsAt w p L) (hb : Below w.heap.size w w') : WrsAt w' p L := fun i hi => by
  obtain ⟨g, o, e, hg, c, d, f, hs⟩ := h i hi
  exact ⟨g, o, e, Nat.lt_of_lt_of_le hg hb.size, by rw [hb.cell hg]; exact c, by rw [hb.cell hg]; exact d, by rw [hb.cell hg]; exact f, hs⟩
/-- a variable that holds some cells -/
structure Boxed (w : World) (g : Nat) (cs : List Value) : Prop where
  lt : g < w.heap.size
  cell : ∀ i, i < cs.length → w.cell? ⟨g, i, none⟩ = some (cs.getD i (.bool false))
  free : ∀ i, i < cs.length → w.frozen? ⟨g, i, none⟩ = false
theorem Boxed.below {w w' : World} {g : Nat} {cs : List Value} (h : Boxed w g cs) (hb : Below w.heap.size w w') : Boxed w' g cs :=
  ⟨Nat.lt_of_lt_of_le h.lt hb.size, fun i hi => by rw [hb.cell h.lt]; exact h.cell i hi, fun i hi => by rw [hb.frozen h.lt]; exact h.free i hi⟩
theorem Boxed.new (w : World) (cs : Array Value) (t : TypeId) : Boxed (w.alloc (.cells cs t)) w.heap.size cs.toList := by
  have hg := heap_alloc_new w (.cells cs t)
  refine ⟨by simp, fun i hi => ?_, fun i hi => ?_⟩
  · rw [cell_of_row _ _ i _ t (0, 0) hg]
    rw [Array.length_toList] at hi
    simp [List.getD_eq_getElem?_getD, hi]
  · unfold World.frozen?
    rw [hg]
    simp
theorem ret_int {k : IntKind} {a b : Int} (h : a = b) : Ending.returned (.int k a) = .returned (.int k b) := by rw [h]
theorem ret_bool {a b : Bool} (h : a = b) : Ending.returned (.bool a) = .returned (.bool b) := by rw [h]
theorem ret_ib {a b : Int} {c d : Bool} (h : a = b) (k : c = d) : Ending.returned (.tuple #[.int .i64 a, .bool c]) = .returned (.tuple #[.int .i64 b, .bool d]) := by rw [h, k]

def named (s : ByteArray) : Bool := decide (1 ≤ s.size) && decide (s.size ≤ 16)
theorem isName_any (s : ByteArray) (w : World) (hs : s.size ≤ 9223372036854775807) : Calls Try.prog 42 #[.string s] w fun e w' => e = .returned (.bool (named s)) ∧ w = w' := by
  by_cases h1 : 1 ≤ s.size
  · have F : Hid (decide (s.size ≤ 16) = named s) := Lib.hid (by unfold named; rw [decide_eq_true h1]; rfl)
    have t : decide ((1 : Int) ≤ (s.size : Int)) = true := decide_eq_true (by omega)
    go_enter Try.func42, Try.ntmps42
    go_wp2
    go_ret
    exact ⟨ret_bool (by rw [← F.out]; simp; try omega), rfl⟩
  · have F : Hid (false = named s) := Lib.hid (by unfold named; rw [decide_eq_false h1]; rfl)
    have t : decide ((1 : Int) ≤ (s.size : Int)) = false := decide_eq_false (by omega)
    clear h1
    go_enter Try.func42, Try.ntmps42
    go_wp2
    go_ret
    exact ⟨ret_bool F.out, rfl⟩

/-- how many sectors -/
def many (s : ByteArray) : Nat := s.size / 64
theorem sectorsOf_any (n d : ByteArray) (w : World) (hs : d.size ≤ 9223372036854775807) : Calls Try.prog 48 #[.agg #[.string n, .string d]] w fun e w' => e = .returned (.int .i64 (many d)) ∧ Below w.heap.size w w' := by
  have hbx : Below w.heap.size w (w.alloc (.cells #[.string n, .string d] 86)) := (Below.refl _ _).alloc (Nat.le_refl _) _
  have e1 : (d.size : Int) / 64 = (many d : Int) := by unfold many; omega
  have e2 : (d.size : Int).tdiv 64 = (many d : Int) := by rw [Int.tdiv_eq_ediv_of_nonneg (by omega)]; exact e1
  have hm : many d ≤ d.size := Nat.div_le_self _ _
  have e3 : IntKind.i64.wrap (many d : Int) = (many d : Int) := IntWalk.i64_in _ (by omega)
  go_enter Try.func48, Try.ntmps48
  go_wp2_with fail
  go_ret
  exact ⟨rfl, hbx⟩

set_option maxHeartbeats 1000000 in
set_option maxRecDepth 100000 in
theorem cmpString_any (a b : ByteArray) (w : World) :
    Calls Try.prog 58 #[.string a, .string b] w fun e w' => e = .returned (.int .i64 (ncmp a b)) ∧ w = w' := by
  have F := Lib.hid (ncmp_eq a b)
  go_enter Try.func58, Try.ntmps58
  go_wp2
  rw [run_callFunc_extern Try.func61 (by kernel_rfl) (by kernel_rfl) (by kernel_rfl) (e := Extern.BytealgCompare.compare) (by kernel_rfl), Lib.run_compareString]
  simp only [Result.andThen]
  rw [Oper.upon_value]
  go_wp2
  go_ret
  exact ⟨ret_int F.out, rfl⟩
theorem compare_any (a b : ByteArray) (w : World) : Calls Try.prog 56 #[.string a, .string b] w fun e w' => e = .returned (.int .i64 (ncmp a b)) ∧ w = w' := by
  go_enter Try.func56, Try.ntmps56
  go_wp2_with (go_at_call 58; refine (cmpString_any _ _ _).mono ?_; rintro e w' ⟨rfl, rfl⟩)
  go_ret
  exact ⟨rfl, rfl⟩
theorem place1_any (n d b : ByteArray) (w : World) : Calls Try.prog 55 #[.agg #[.string n, .string d], .string b] w fun e w' => e = .returned (.int .i64 (ncmp n b)) ∧ Below w.heap.size w w' := by
  have hbx : Below w.heap.size w (w.alloc (.cells #[.string n, .string d] 86)) := (Below.refl _ _).alloc (Nat.le_refl _) _
  go_enter Try.func55, Try.ntmps55
  go_wp2_with (go_at_call 56; refine (compare_any _ _ _).mono ?_; rintro e w' ⟨rfl, rfl⟩)
  go_ret
  exact ⟨rfl, hbx⟩

set_option maxHeartbeats 4000000 in
set_option maxRecDepth 100000 in
theorem search_any (E : List Ext) (p : Option Addr) (c : Nat) (b : ByteArray) (w : World) (h : ExtAt w p E) (hs : Sorted E) (hE : E.length ≤ 1000000000) :
    Calls Try.prog 54 #[.slice p E.length c, .string b, .func (.func 55) #[] #[]] w fun e w' => e = .returned (.tuple #[.int .i64 (pos E b : Nat), .bool (isAt E b)]) ∧ Below w.heap.size w w' := by
  have HE := Lib.hid h; have HS := Lib.hid hs
  clear h hs
  obtain ⟨n, hn⟩ : ∃ n, n = E.length := ⟨_, rfl⟩
  rw [← hn]; rw [← hn] at hE
  have HN := Lib.hid hn
  clear hn
  go_enter Try.func54, Try.ntmps54
  go_wp2_with fail
  go_loopw [9, 10, 11] (fun i j _ wr => ∃ lo hi : Nat, lo ≤ hi ∧ hi ≤ n ∧ i = .int .i64 lo ∧ j = .int .i64 hi ∧ (∀ k, k < lo → nlt (E.getD k default).1 b = true) ∧ (∀ k, hi ≤ k → k < n → nlt (E.getD k default).1 b = false) ∧ Below w.heap.size w wr) (fun i j _ _ => (intOf j - intOf i).toNat)
  case atStart => exact ⟨0, n, by omega, by omega, rfl, rfl, fun k hk => by omega, fun k h1 h2 => by omega, Below.refl _ _⟩
  case round =>
    obtain ⟨lo, hi, hlh, hhn, rfl, rfl, hlo, hhi, hbl⟩ := hrel
    by_cases hlt : lo < hi
    · obtain ⟨m, hm⟩ : ∃ m, m = (lo + hi) / 2 := ⟨_, rfl⟩
      have hm1 : lo ≤ m := by omega
      have hm2 : m < hi := by omega
      obtain ⟨g, o, rfl, hg, d0, d1, hz1, hz2⟩ := (HE.out.below hbl) m (by rw [← HN.out]; omega)
      obtain ⟨x, hx⟩ : ∃ x, x = (E.getD m default).1 := ⟨_, rfl⟩
      obtain ⟨y, hy⟩ : ∃ y, y = (E.getD m default).2 := ⟨_, rfl⟩
      rw [← hx] at d0 hz1; rw [← hy] at d1 hz2
      have e1 : ((lo : Int) + (hi : Int)) / 2 = (m : Int) := by omega
      have m0 : (0 : Int) ≤ (m : Int) := by omega
      have m1 : (m : Int) < (n : Int) := by omega
      have HS2 : Hid (∀ k, k < n → (k ≤ m → nlt x b = true → nlt (E.getD k default).1 b = true) ∧ (m ≤ k → nlt x b = false → nlt (E.getD k default).1 b = false)) := Lib.hid (fun k hk => ⟨fun h1 h2 => by
        rcases Nat.lt_or_ge k m with h | h
        · exact nlt_trans (HS.out k m h (by rw [← HN.out]; omega)) (by rw [← hx]; exact h2)
        · have e : k = m := by omega
          rw [e, ← hx]; exact h2, fun h1 h2 => by
        rcases Nat.lt_or_ge m k with h | h
        · cases h3 : nlt (E.getD k default).1 b with
          | false => rfl
          | true =>
            have h4 := nlt_trans (HS.out m k h (by rw [← HN.out]; omega)) h3
            rw [← hx, h2] at h4; cases h4
        · have e : k = m := by omega
          rw [e, ← hx]; exact h2⟩)
      have hcm := ncmp_lt x b
      obtain ⟨z, hz⟩ : ∃ z, z = ncmp x b := ⟨_, rfl⟩
      rw [← hz] at hcm
      have HZ := Lib.hid hz; have HBL := Lib.hid hbl; have HLO := Lib.hid hlo; have HHI := Lib.hid hhi
      clear hm hx hy hz hlo hhi hbl
      cases hc : nlt x b with
      | true =>
        rw [hc] at hcm
        have H1 : Hid (∀ k, k < m + 1 → nlt (E.getD k default).1 b = true) := Lib.hid (fun k hk => (HS2.out k (by omega)).1 (by omega) hc)
        clear hc
        go_wp2_with fail
        refine (place1_any x y b _).mono ?_
        rw [← HZ.out]
        rintro e w1 ⟨rfl, b1⟩
        have H2 := Lib.hid (HBL.out.trans (b1.mono HBL.out.size))
        clear b1 d0 d1
        go_wp2_with fail
        go_roundw
        case rel => exact ⟨m + 1, hi, by omega, by omega, by go_num, rfl, H1.out, HHI.out, H2.out⟩
        case measure => simp [intOf]; omega
      | false =>
        rw [hc] at hcm
        have H1 : Hid (∀ k, m ≤ k → k < n → nlt (E.getD k default).1 b = false) := Lib.hid (fun k hk hk2 => (HS2.out k hk2).2 hk hc)
        clear hc
        go_wp2_with fail
        refine (place1_any x y b _).mono ?_
        rw [← HZ.out]
        rintro e w1 ⟨rfl, b1⟩
        have H2 := Lib.hid (HBL.out.trans (b1.mono HBL.out.size))
        clear b1 d0 d1
        go_wp2_with fail
        go_roundw
        case rel => exact ⟨lo, m, by omega, by omega, rfl, rfl, HLO.out, H1.out, H2.out⟩
        case measure => simp [intOf]; omega
    · obtain rfl : lo = hi := by omega
      have hp : pos E b = lo := pos_of (by rw [← HN.out]; exact hhn) hlo (fun h => hhi lo (Nat.le_refl _) (by rw [HN.out]; exact h))
      have HP := Lib.hid hp; have HBL := Lib.hid hbl
      clear hlo hhi hp
      by_cases hl : lo < n
      · obtain ⟨g, o, rfl, hg, d0, d1, hz1, hz2⟩ := (HE.out.below HBL.out) lo (by rw [← HN.out]; omega)
        obtain ⟨x, hx⟩ : ∃ x, x = (E.getD lo default).1 := ⟨_, rfl⟩
        obtain ⟨y, hy⟩ : ∃ y, y = (E.getD lo default).2 := ⟨_, rfl⟩
        rw [← hx] at d0 hz1; rw [← hy] at d1 hz2
        have hcz := ncmp_zero x b
        obtain ⟨z, hz⟩ : ∃ z, z = ncmp x b := ⟨_, rfl⟩
        rw [← hz] at hcz
        have F : Hid (((lo : Int) = (pos E b : Nat)) ∧ decide (x = b) = isAt E b) := Lib.hid ⟨by rw [HP.out], by unfold isAt; rw [HP.out, ← HN.out, decide_eq_true hl, ← hx]; rfl⟩
        obtain ⟨q, hq⟩ : ∃ q, q = decide (x = b) := ⟨_, rfl⟩
        rw [← hq] at hcz F
        have HZ := Lib.hid hz
        have m0 : (0 : Int) ≤ (lo : Int) := by omega
        have m1 : (lo : Int) < (n : Int) := by omega
        clear hbl hx hy hz hq hlt
        go_wp2_with fail
        refine (place1_any x y b _).mono ?_
        rw [← HZ.out]
        rintro e w1 ⟨rfl, b1⟩
        have H2 := Lib.hid (HBL.out.trans (b1.mono HBL.out.size))
        clear b1 d0 d1
        go_wp2_with fail
        go_ret2
        exact ⟨ret_ib F.out.1 F.out.2, H2.out⟩
      · have F : Hid (((lo : Int) = (pos E b : Nat)) ∧ false = isAt E b) := Lib.hid ⟨by rw [HP.out], by unfold isAt; rw [HP.out, ← HN.out, decide_eq_false hl]; rfl⟩
        have t : decide (lo < n) = false := decide_eq_false hl
        clear hbl hlt
        go_wp2_with fail
        go_ret2
        exact ⟨ret_ib F.out.1 F.out.2, HBL.out⟩
end Go.Proofs.Ytgpheofdeflhdaa.Dk
