/- The walks of Less, the program's and the document's; SameOne, Same. -/
import Derived.Test.YthkgdjclgphodaaRows
import Derived.Test.YthkgdjclgphodaaRd
import Derived.WalkSpells
import Derived.WalkLawsBesides
import Derived.Lib.Strings
import Derived.Lib.Hide
import Derived.Deep.QuietTactic
import Derived.BigQuiet
import Derived.RegionTactic
import Derived.Deep.RegionHeld3
import Derived.Laws.BitsAllLaws
namespace Go.Proofs.Ythkgdjclgphodaa.Nm
open Go.RowKit Rw
theorem ret_int {k : IntKind} {a b : Int} (h : a = b) : Ending.returned (.int k a) = .returned (.int k b) := by rw [h]

/-- which of two lists stands ahead -/
def lexL : List Nat → List Nat → Bool
  | [], [] => false
  | [], _ :: _ => true
  | _ :: _, [] => false
  | a :: x, b :: y => if a = b then lexL x y else decide (a < b)
theorem lexL_nil_nil : lexL [] [] = false := rfl
theorem lexL_nil_right (x : List Nat) : lexL x [] = false := by cases x <;> rfl
theorem lexL_nil_left (x : List Nat) : lexL [] x = decide (0 < x.length) := by cases x <;> simp [lexL]
theorem lexL_same (x : List Nat) : lexL x x = false := by
  induction x with
  | nil => rfl
  | cons a x ih => simp [lexL, ih]
theorem lexL_none : ∀ (x y : List Nat), lexL x y = false → lexL y x = false → x = y
  | [], [], _, _ => rfl
  | [], _ :: _, h, _ => by simp [lexL] at h
  | _ :: _, [], _, h => by simp [lexL] at h
  | a :: x, b :: y, h, k => by
    by_cases e : a = b
    · subst e
      simp [lexL] at h k
      rw [lexL_none x y h k]
    · have e2 : ¬ b = a := fun h => e h.symm
      simp [lexL, e, e2] at h k
      omega
theorem same_lex (x y : List Nat) : (!lexL x y && !lexL y x) = decide (x = y) := by
  by_cases h : x = y
  · subst h; simp [lexL_same]
  · rw [decide_eq_false h]
    cases h1 : lexL x y with
    | true => rfl
    | false =>
      cases h2 : lexL y x with
      | true => rfl
      | false => exact absurd (lexL_none x y h1 h2) h
theorem lexL_step (x y : List Nat) (k : Nat) (hx : k < x.length) (hy : k < y.length) : lexL (x.drop k) (y.drop k) = if x.getD k 0 = y.getD k 0 then lexL (x.drop (k + 1)) (y.drop (k + 1)) else decide (x.getD k 0 < y.getD k 0) := by
  rw [List.drop_eq_getElem_cons hx, List.drop_eq_getElem_cons hy]
  simp only [lexL, List.getD_eq_getElem?_getD, List.getElem?_eq_getElem hx, List.getElem?_eq_getElem hy, Option.getD_some]

def nums (L : List Nat) : List Value := L.map fun (n : Nat) => Value.int .u64 (n : Int)
theorem drop_nil (x : List Nat) (k : Nat) (h : x.length ≤ k) : x.drop k = [] := List.drop_eq_nil_of_le h
theorem nums_length (L : List Nat) : (nums L).length = L.length := by simp [nums]
theorem nums_getD (L : List Nat) (k : Nat) (h : k < L.length) : (nums L).getD k (.bool false) = .int .u64 (L.getD k 0 : Nat) := by
  simp [nums, List.getD_eq_getElem?_getD, List.getElem?_eq_getElem h]
theorem nums_snoc (L : List Nat) (n : Nat) : nums (L ++ [n]) = nums L ++ [.int .u64 (n : Int)] := by simp [nums]
theorem rd_num {w : World} {A : Option Addr} {L : List Nat} (h : Rd w A (nums L)) (k : Nat) (hk : k < L.length) : ∃ a : Addr, A = some a ∧ w.cell? (a.add k) = some (.int .u64 (L.getD k 0 : Nat)) := by
  obtain ⟨a, e, _, hc⟩ := h k (by rw [nums_length]; exact hk)
  exact ⟨a, e, by rw [hc, nums_getD L k hk]⟩

def cmpI (a b : Nat) : Int := if a < b then -1 else if b < a then 1 else 0
theorem isNaN_any (n : Nat) (w : World) : Calls Try.prog 46 #[.int .u64 n] w fun e w' => e = .returned (.bool false) ∧ w = w' := by
  go_enter Try.func46, Try.ntmps46
  go_wp2_with fail
  go_ret
  exact ⟨rfl, rfl⟩
set_option maxHeartbeats 1000000 in
theorem cmp_any (a b : Nat) (w : World) : Calls Try.prog 44 #[.int .u64 a, .int .u64 b] w fun e w' => e = .returned (.int .i64 (cmpI a b)) ∧ w = w' := by
  rcases Nat.lt_trichotomy a b with h | h | h
  · have F : Hid (-1 = cmpI a b) := Lib.hid (if_pos h).symm
    go_enter Try.func44, Try.ntmps44
    go_wp2_with (go_at_call 46; refine (isNaN_any _ _).mono ?_; rintro e w' ⟨rfl, rfl⟩)
    go_ret
    exact ⟨ret_int F.out, rfl⟩
  · have F : Hid (0 = cmpI a b) := Lib.hid (by unfold cmpI; rw [if_neg (by omega), if_neg (by omega)])
    go_enter Try.func44, Try.ntmps44
    go_wp2_with (go_at_call 46; refine (isNaN_any _ _).mono ?_; rintro e w' ⟨rfl, rfl⟩)
    go_ret
    exact ⟨ret_int F.out, rfl⟩
  · have F : Hid (1 = cmpI a b) := Lib.hid (by unfold cmpI; rw [if_neg (by omega), if_pos h])
    go_enter Try.func44, Try.ntmps44
    go_wp2_with (go_at_call 46; refine (isNaN_any _ _).mono ?_; rintro e w' ⟨rfl, rfl⟩)
    go_ret
    exact ⟨ret_int F.out, rfl⟩

/-- what slices.Compare answers is below 0 just if a stands ahead of b -/
def cmpL : List Nat → List Nat → Int
  | [], [] => 0
  | [], _ :: _ => -1
  | _ :: _, [] => 1
  | a :: x, b :: y => if a = b then cmpL x y else cmpI a b
theorem cmpL_lex : ∀ (x y : List Nat), decide (cmpL x y < 0) = lexL x y
  | [], [] => rfl
  | [], _ :: _ => rfl
  | _ :: _, [] => rfl
  | a :: x, b :: y => by
    by_cases e : a = b
    · simp only [cmpL, lexL, if_pos e]; exact cmpL_lex x y
    · simp only [cmpL, lexL, if_neg e, cmpI]
      by_cases h : a < b
      · rw [if_pos h, decide_eq_true h]; rfl
      · rw [if_neg h, if_pos (by omega), decide_eq_false h]; rfl
theorem cmpL_step (x y : List Nat) (k : Nat) (hx : k < x.length) (hy : k < y.length) : cmpL (x.drop k) (y.drop k) = if x.getD k 0 = y.getD k 0 then cmpL (x.drop (k + 1)) (y.drop (k + 1)) else cmpI (x.getD k 0) (y.getD k 0) := by
  rw [List.drop_eq_getElem_cons hx, List.drop_eq_getElem_cons hy]
  simp only [cmpL, List.getD_eq_getElem?_getD, List.getElem?_eq_getElem hx, List.getElem?_eq_getElem hy, Option.getD_some]

set_option maxHeartbeats 2000000 in
theorem compare_any (x y : List Nat) (p q : Option Addr) (c d : Nat) (w : World) (hp : Rd w p (nums x)) (hq : Rd w q (nums y)) (hx : x.length ≤ 9223372036854775807) (hy : y.length ≤ 9223372036854775807) :
    Calls Try.prog 38 #[.slice p x.length c, .slice q y.length d] w fun e w' => e = .returned (.int .i64 (cmpL x y)) ∧ w = w' := by
  have HP := Lib.hid hp; have HQ := Lib.hid hq
  clear hp hq
  obtain ⟨n, hn⟩ : ∃ n, n = x.length := ⟨_, rfl⟩
  obtain ⟨m, hm⟩ : ∃ m, m = y.length := ⟨_, rfl⟩
  rw [← hn, ← hm]
  rw [← hn] at hx; rw [← hm] at hy
  have HN := Lib.hid hn; have HM := Lib.hid hm
  clear hn hm
  go_enter Try.func38, Try.ntmps38
  go_wp2_with fail
  go_loop [5, 6, 7, 8, 11] (fun _ _ _ _ i => ∃ k : Nat, k ≤ n ∧ k ≤ m ∧ i = .int .i64 k ∧ cmpL (x.drop k) (y.drop k) = cmpL x y) (fun _ _ _ _ i => n - (intOf i).toNat)
  case atStart => exact ⟨0, by omega, by omega, rfl, rfl⟩
  case round =>
    obtain ⟨k, hk, hkm, rfl, hl⟩ := hrel
    by_cases hlt : k < n
    · by_cases hlm : k < m
      · obtain ⟨a, rfl, ca⟩ := rd_num HP.out k (by rw [← HN.out]; exact hlt)
        obtain ⟨b, rfl, cb⟩ := rd_num HQ.out k (by rw [← HM.out]; exact hlm)
        rw [cmpL_step x y k (by rw [← HN.out]; exact hlt) (by rw [← HM.out]; exact hlm)] at hl
        obtain ⟨u, hu⟩ : ∃ u, u = x.getD k 0 := ⟨_, rfl⟩
        obtain ⟨v, hv⟩ : ∃ v, v = y.getD k 0 := ⟨_, rfl⟩
        rw [← hu, ← hv] at hl
        rw [← hu] at ca; rw [← hv] at cb
        by_cases he : u = v
        · rw [if_pos he] at hl
          have HL := Lib.hid hl
          have E : Hid (cmpI u v = 0) := Lib.hid (by unfold cmpI; rw [if_neg (by omega), if_neg (by omega)])
          clear hl hu hv he
          go_wp2_with (go_at_call 44; refine (cmp_any _ _ _).mono ?_; rw [E.out]; rintro e w' ⟨rfl, rfl⟩)
          go_round
          case rel => exact ⟨k + 1, by omega, by omega, by go_num, HL.out⟩
          case measure => simp [intOf]; omega
        · rw [if_neg he] at hl
          have HL := Lib.hid hl
          obtain ⟨z, hz⟩ : ∃ z, z = cmpI u v := ⟨_, rfl⟩
          have hne : z ≠ 0 := by
            rw [hz]; unfold cmpI
            by_cases h : u < v
            · rw [if_pos h]; omega
            · rw [if_neg h, if_pos (by omega)]; omega
          have t : (z != 0) = true := by rw [bne_iff_ne]; exact hne
          have E := Lib.hid hz
          clear hl hu hv he hz hne
          go_wp2_with (go_at_call 44; refine (cmp_any _ _ _).mono ?_; rw [← E.out]; rintro e w' ⟨rfl, rfl⟩)
          go_ret
          exact ⟨ret_int (by rw [E.out, HL.out]), rfl⟩
      · obtain rfl : k = m := by omega
        have F : Hid (1 = cmpL x y) := Lib.hid (by
          rw [← hl, drop_nil y _ (by rw [← HM.out]; exact Nat.le_refl _), List.drop_eq_getElem_cons (l := x) (by rw [← HN.out]; exact hlt)]; rfl)
        obtain ⟨a, rfl, ca⟩ := rd_num HP.out k (by rw [← HN.out]; exact hlt)
        clear hl
        go_wp2_with fail
        go_ret
        exact ⟨ret_int F.out, rfl⟩
    · obtain rfl : k = n := by omega
      by_cases hlm : k < m
      · have F : Hid (-1 = cmpL x y) := Lib.hid (by
          rw [← hl, drop_nil x _ (by rw [← HN.out]; exact Nat.le_refl _), List.drop_eq_getElem_cons (l := y) (by rw [← HM.out]; exact hlm)]; rfl)
        clear hl
        go_wp2_with fail
        go_ret
        exact ⟨ret_int F.out, rfl⟩
      · have F : Hid (0 = cmpL x y) := Lib.hid (by
          rw [← hl, drop_nil x _ (by rw [← HN.out]; exact Nat.le_refl _), drop_nil y _ (by rw [← HM.out]; omega)]; rfl)
        clear hl
        go_wp2_with fail
        go_ret
        exact ⟨ret_int F.out, rfl⟩

theorem drewN2 (w : World) (a b : Nat) : ∃ n, (w.drewN a).drewN b = w.drewN n := ⟨_, by rw [World.drewN_drewN]⟩
theorem drewN3 (w : World) (a b c : Nat) : ∃ n, ((w.drewN a).drewN b).drewN c = w.drewN n := ⟨_, by rw [World.drewN_drewN, World.drewN_drewN]⟩
theorem ret_bool {a b : Bool} (h : a = b) : Ending.returned (.bool a) = .returned (.bool b) := by rw [h]
theorem less_any (x y : List Nat) (p q : Option Addr) (c d : Nat) (w : World) (hp : Rd w p (nums x)) (hq : Rd w q (nums y)) (hx : x.length ≤ 9223372036854775807) (hy : y.length ≤ 9223372036854775807) :
    Calls Try.prog 23 #[.slice p x.length c, .slice q y.length d] w fun e w' => e = .returned (.bool (lexL x y)) ∧ w = w' := by
  have HP := Lib.hid hp; have HQ := Lib.hid hq
  have F : Hid (decide (cmpL x y < 0) = lexL x y) := Lib.hid (cmpL_lex x y)
  clear hp hq
  go_enter Try.func23, Try.ntmps23
  go_wp2_with fail
  refine (compare_any x y p q c d _ HP.out HQ.out hx hy).mono ?_
  rintro e w' ⟨rfl, rfl⟩
  go_wp2_with fail
  go_ret
  exact ⟨ret_bool F.out, rfl⟩

set_option maxHeartbeats 2000000 in
theorem rless_any (x y : List Nat) (p q : Option Addr) (c d : Nat) (w : World) (hp : Rd w p (nums x)) (hq : Rd w q (nums y)) (hx : x.length ≤ 9223372036854775807) (hy : y.length ≤ 9223372036854775807) :
    Calls Try.prog 34 #[.slice p x.length c, .slice q y.length d] w fun e w' => e = .returned (.bool (lexL x y)) ∧ ∃ n, w' = w.drewN n := by
  have HP := Lib.hid hp; have HQ := Lib.hid hq
  clear hp hq
  obtain ⟨n, hn⟩ : ∃ n, n = x.length := ⟨_, rfl⟩
  obtain ⟨m, hm⟩ : ∃ m, m = y.length := ⟨_, rfl⟩
  rw [← hn, ← hm]
  rw [← hn] at hx; rw [← hm] at hy
  have HN := Lib.hid hn; have HM := Lib.hid hm
  clear hn hm
  go_enter Try.func34, Try.ntmps34
  go_wp2_with fail
  go_loopw [5] (fun i wr => ∃ k j : Nat, k ≤ n ∧ k ≤ m ∧ i = .int .i64 k ∧ lexL (x.drop k) (y.drop k) = lexL x y ∧ wr = w.drewN j) (fun i _ => n - (intOf i).toNat)
  case atStart => exact ⟨0, 0, by omega, by omega, rfl, rfl, rfl⟩
  case round =>
    obtain ⟨k, j, hk, hkm, rfl, hl, rfl⟩ := hrel
    by_cases hlt : k < n
    · by_cases hlm : k < m
      · obtain ⟨a, rfl, ca⟩ := rd_num HP.out k (by rw [← HN.out]; exact hlt)
        obtain ⟨b, rfl, cb⟩ := rd_num HQ.out k (by rw [← HM.out]; exact hlm)
        rw [lexL_step x y k (by rw [← HN.out]; exact hlt) (by rw [← HM.out]; exact hlm)] at hl
        obtain ⟨u, hu⟩ : ∃ u, u = x.getD k 0 := ⟨_, rfl⟩
        obtain ⟨v, hv⟩ : ∃ v, v = y.getD k 0 := ⟨_, rfl⟩
        rw [← hu, ← hv] at hl
        rw [← hu] at ca; rw [← hv] at cb
        have k0 : (0 : Int) ≤ (k : Int) := by omega
        have k1 : (k : Int) < (n : Int) := by omega
        have k2 : (k : Int) < (m : Int) := by omega
        by_cases he : u = v
        · rw [if_pos he] at hl
          have HL := Lib.hid hl
          have t : ((u : Int) != (v : Int)) = false := by rw [bne_eq_false_iff_eq]; omega
          clear hl hu hv he
          go_wp2_with fail
          go_quiet (fail)
          go_wp2_with fail
          go_roundw
          case rel => exact ⟨k + 1, _, by omega, by omega, by go_num, HL.out, rfl⟩
          case measure => simp [intOf]; omega
        · rw [if_neg he] at hl
          have HL := Lib.hid hl
          have t : ((u : Int) != (v : Int)) = true := by rw [bne_iff_ne]; omega
          have F : Hid (decide ((u : Int) < (v : Int)) = decide (u < v)) := Lib.hid (by simp)
          clear hl hu hv he
          go_wp2_with fail
          go_quiet (fail)
          go_wp2_with fail
          go_quiet (fail)
          go_wp2_with fail
          go_ret
          exact ⟨ret_bool (by rw [← HL.out, ← F.out]), drewN3 _ _ _ _⟩
      · obtain rfl : k = m := by omega
        have F : Hid (decide (n < k) = lexL x y) := Lib.hid (by
          rw [← hl, drop_nil y _ (by rw [← HM.out]; exact Nat.le_refl _), lexL_nil_right]; exact decide_eq_false (by omega))
        clear hl
        go_wp2_with fail
        go_ret
        exact ⟨ret_bool F.out, _, rfl⟩
    · obtain rfl : k = n := by omega
      have F : Hid (decide (k < m) = lexL x y) := Lib.hid (by
        rw [← hl, drop_nil x _ (by rw [← HN.out]; exact Nat.le_refl _), lexL_nil_left, List.length_drop, ← HM.out]
        rw [Bool.eq_iff_iff]; simp; omega)
      clear hl
      go_wp2_with fail
      go_ret
      exact ⟨ret_bool F.out, _, rfl⟩

theorem quiet_at {P : Program} {f : FuncId} {args : Array Value} {w : World} {n : Nat} {v : Value}
    (h : Calls P f args (w.drewN n) fun e w' => e = .returned v ∧ ∃ m, w' = (w.drewN n).drewN m) : Calls P f args (w.drewN n) fun e w'' => e = .returned v ∧ ∃ m, w'' = w.drewN m :=
  h.mono fun _ _ ⟨he, m, hm⟩ => ⟨he, n + m, by rw [hm, World.drewN_drewN]⟩

set_option maxHeartbeats 1000000 in
theorem sameOne_any (x y : List Nat) (p q : Option Addr) (c d : Nat) (w : World) (hp : Rd w p (nums x)) (hq : Rd w q (nums y)) (hx : x.length ≤ 9223372036854775807) (hy : y.length ≤ 9223372036854775807) :
    Calls Try.prog 19 #[.slice p x.length c, .slice q y.length d] w fun e w' => e = .returned (.bool (decide (x = y))) ∧ ∃ n, w' = w.drewN n := by
  have HP := Lib.hid hp; have HQ := Lib.hid hq
  have F := Lib.hid (same_lex x y)
  clear hp hq
  cases h1 : lexL x y with
  | true =>
    have H1 := Lib.hid h1; clear h1
    go_enter Try.func19, Try.ntmps19
    go_wp2_with fail
    refine (rless_any x y p q c d _ HP.out HQ.out hx hy).mono ?_
    rw [H1.out]
    rintro e w1 ⟨rfl, n, rfl⟩
    go_wp2_with fail
    go_ret
    exact ⟨ret_bool (by rw [← F.out, H1.out]; rfl), _, rfl⟩
  | false =>
    have H1 := Lib.hid h1; clear h1
    go_enter Try.func19, Try.ntmps19
    go_wp2_with fail
    refine (rless_any x y p q c d _ HP.out HQ.out hx hy).mono ?_
    rw [H1.out]
    rintro e w1 ⟨rfl, n, rfl⟩
    go_wp2_with fail
    refine (rless_any y x q p d c _ (HQ.out.drewN n) (HP.out.drewN n) hy hx).mono ?_
    rintro e w1 ⟨rfl, m, rfl⟩
    go_wp2_with fail
    go_ret
    exact ⟨ret_bool (by rw [← F.out, H1.out]; rfl), _, rfl⟩

/-- a slice of records, as it is read -/
def RecsAt (w : World) (A : Option Addr) (M : List (List Nat)) : Prop :=
  ∀ i, i < M.length → ∃ (a : Addr) (q : Option Addr) (c : Nat), A = some a ∧ a.block < w.heap.size ∧ w.cell? (a.add i) = some (.slice q (M.getD i []).length c) ∧ Rd w q (nums (M.getD i [])) ∧ (M.getD i []).length ≤ 9223372036854775807
theorem RecsAt.below {w w' : World} {A : Option Addr} {M : List (List Nat)} (h : RecsAt w A M) (hb : Below w.heap.size w w') : RecsAt w' A M := fun i hi => by
  obtain ⟨a, q, c, e, hl, hc, hr, hn⟩ := h i hi
  exact ⟨a, q, c, e, Nat.lt_of_lt_of_le hl hb.size, by rw [hb.cell (by rw [add_block]; exact hl)]; exact hc, hr.below hb, hn⟩
theorem RecsAt.drewN {w : World} {A : Option Addr} {M : List (List Nat)} (h : RecsAt w A M) (n : Nat) : RecsAt (w.drewN n) A M := h.below ⟨rfl, rfl, rfl, Nat.le_refl _, fun _ _ => rfl⟩

def recsEq (M N : List (List Nat)) : Bool := decide (M = N)
theorem recs_step (M N : List (List Nat)) (k : Nat) (h1 : k < M.length) (h2 : k < N.length) (hk : M.take k = N.take k) : (M.getD k [] = N.getD k [] ↔ M.take (k + 1) = N.take (k + 1)) := by
  have e1 := List.take_succ_eq_append_getElem h1
  have e2 := List.take_succ_eq_append_getElem h2
  have a1 : M.getD k [] = M[k] := by simp [List.getD_eq_getElem?_getD, List.getElem?_eq_getElem h1]
  have a2 : N.getD k [] = N[k] := by simp [List.getD_eq_getElem?_getD, List.getElem?_eq_getElem h2]
  rw [e1, e2, a1, a2, hk]
  constructor
  · intro h; rw [h]
  · intro h
    have := List.append_cancel_left h
    simpa using this

set_option maxHeartbeats 2000000 in
set_option maxRecDepth 100000 in
theorem same_any (M N : List (List Nat)) (p q : Option Addr) (c d : Nat) (w : World) (hp : RecsAt w p M) (hq : RecsAt w q N) (hx : M.length ≤ 9223372036854775807) (hy : N.length ≤ 9223372036854775807) :
    Calls Try.prog 28 #[.slice p M.length c, .slice q N.length d] w fun e w' => e = .returned (.bool (decide (M = N))) ∧ ∃ n, w' = w.drewN n := by
  have HP := Lib.hid hp; have HQ := Lib.hid hq
  clear hp hq
  obtain ⟨n, hn⟩ : ∃ n, n = M.length := ⟨_, rfl⟩
  obtain ⟨m, hm⟩ : ∃ m, m = N.length := ⟨_, rfl⟩
  rw [← hn, ← hm]
  rw [← hn] at hx; rw [← hm] at hy
  by_cases hnm : n = m
  case neg =>
    have F : Hid (false = decide (M = N)) := Lib.hid (decide_eq_false (fun h => hnm (by rw [hn, hm, h]))).symm
    have t : ((n : Int) != (m : Int)) = true := by rw [bne_iff_ne]; omega
    clear hn hm hnm
    go_enter Try.func28, Try.ntmps28
    go_wp2_with fail
    go_ret
    exact ⟨ret_bool F.out, 0, rfl⟩
  subst hnm
  have HN := Lib.hid hn; have HM := Lib.hid hm
  clear hn hm
  go_enter Try.func28, Try.ntmps28
  go_wp2_with fail
  go_loopw [5, 13] (fun _ i wr => ∃ k j : Nat, k ≤ n ∧ i = .int .i64 k ∧ M.take k = N.take k ∧ wr = w.drewN j) (fun _ i _ => n - (intOf i).toNat)
  case atStart => exact ⟨0, 0, by omega, rfl, rfl, rfl⟩
  case round =>
    obtain ⟨k, j, hk, rfl, hl, hw⟩ := hrel
    by_cases hlt : k < n
    · have hst := recs_step M N k (by rw [← HN.out]; exact hlt) (by rw [← HM.out]; exact hlt) hl
      have hpw := HP.out.drewN j
      have hqw := HQ.out.drewN j
      rw [← hw] at hpw hqw
      obtain ⟨a, u, cu, rfl, _, ca, hru, hul⟩ := hpw k (by rw [← HN.out]; exact hlt)
      obtain ⟨b, v, cv, rfl, _, cb, hrv, hvl⟩ := hqw k (by rw [← HM.out]; exact hlt)
      obtain ⟨X, hX⟩ : ∃ X, X = M.getD k [] := ⟨_, rfl⟩
      obtain ⟨Y, hY⟩ : ∃ Y, Y = N.getD k [] := ⟨_, rfl⟩
      rw [← hX] at hst ca hru hul
      rw [← hY] at hst cb hrv hvl
      have k0 : (0 : Int) ≤ (k : Int) := by omega
      have k1 : (k : Int) < (n : Int) := by omega
      have HU := Lib.hid hru; have HV := Lib.hid hrv
      by_cases he : X = Y
      · have HL := Lib.hid (hst.1 he)
        have E : Hid (decide (X = Y) = true) := Lib.hid (decide_eq_true he)
        have hcall : ∀ z, Calls Try.prog 19 #[.slice u X.length cu, .slice v Y.length cv] (wr.drewN z) fun e w' => e = .returned (.bool true) ∧ ∃ n, w' = wr.drewN n := fun z => quiet_at (by have h := sameOne_any X Y u v cu cv (wr.drewN z) (HU.out.drewN z) (HV.out.drewN z) hul hvl; rw [E.out] at h; exact h)
        have HC := Lib.hid hcall
        have HW := Lib.hid hw
        clear hl hX hY hst hru hrv he hcall hpw hqw hw
        go_wp2_with fail
        go_quiet ((go_at_call 19; exact HC.out _))
        go_wp2_with fail
        go_roundw
        case rel => exact ⟨k + 1, _, by omega, by go_num, HL.out, by rw [HW.out, World.drewN_drewN]⟩
        case measure => simp [intOf]; omega
      · have F : Hid (false = decide (M = N)) := Lib.hid (decide_eq_false (fun h => he (hst.2 (by rw [h])))).symm
        have E : Hid (decide (X = Y) = false) := Lib.hid (decide_eq_false he)
        have hcall : ∀ z, Calls Try.prog 19 #[.slice u X.length cu, .slice v Y.length cv] (wr.drewN z) fun e w' => e = .returned (.bool false) ∧ ∃ n, w' = wr.drewN n := fun z => quiet_at (by have h := sameOne_any X Y u v cu cv (wr.drewN z) (HU.out.drewN z) (HV.out.drewN z) hul hvl; rw [E.out] at h; exact h)
        have HC := Lib.hid hcall
        have HW := Lib.hid hw
        clear hl hX hY hst hru hrv he hcall hpw hqw hw
        go_wp2_with fail
        go_quiet ((go_at_call 19; exact HC.out _))
        go_wp2_with fail
        go_ret
        exact ⟨ret_bool F.out, by rw [HW.out]; exact drewN2 _ _ _⟩
    · obtain rfl : k = n := by omega
      have F : Hid (true = decide (M = N)) := Lib.hid (decide_eq_true (by
        rw [List.take_of_length_le (by rw [← HN.out]; exact Nat.le_refl _), List.take_of_length_le (by rw [← HM.out]; exact Nat.le_refl _)] at hl; exact hl)).symm
      clear hl
      go_wp2_with fail
      go_ret
      exact ⟨ret_bool F.out, j, by first | rfl | exact hw⟩
end Go.Proofs.Ythkgdjclgphodaa.Nm
