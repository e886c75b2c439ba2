/- The walks of Less, the program's and the document's; SameOne, Same. -/
import Derived.Test.YtgpheofdeflhdaaNumWalkE
import Derived.Test.YtgpheofdeflhdaaRd
namespace Go.Proofs.Ytgpheofdeflhdaa.Nm
open Go.RowKit Rw

/-- which of two lists stands ahead -/
def lexL : List Nat → List Nat → Bool
  | [], [] => false
  | [], _ :: _ => true
  | _ :: _, [] => false
  | a :: x, b :: y => if a = b then lexL x y else decide (a < b)
theorem lexL_nil_nil : lexL [] [] = false := rfl
theorem lexL_nil_right (x : List Nat) : lexL x [] = false := by cases x <;> rfl
theorem lexL_nil_left (x : List Nat) : lexL [] x = decide (0 < x.length) := by cases x <;> simp [lexL]
theorem lexL_same (x : List Nat) : lexL x x = false := by
  induction x with
  | nil => rfl
  | cons a x ih => simp [lexL, ih]
theorem lexL_none : ∀ (x y : List Nat), lexL x y = false → lexL y x = false → x = y
  | [], [], _, _ => rfl
  | [], _ :: _, h, _ => by simp [lexL] at h
  | _ :: _, [], _, h => by simp [lexL] at h
  | a :: x, b :: y, h, k => by
    by_cases e : a = b
    · subst e
      simp [lexL] at h k
      rw [lexL_none x y h k]
    · have e2 : ¬ b = a := fun h => e h.symm
      simp [lexL, e, e2] at h k
      omega
theorem same_lex (x y : List Nat) : (!lexL x y && !lexL y x) = decide (x = y) := by
  by_cases h : x = y
  · subst h; simp [lexL_same]
  · rw [decide_eq_false h]
    cases h1 : lexL x y with
    | true => rfl
    | false =>
      cases h2 : lexL y x with
      | true => rfl
      | false => exact absurd (lexL_none x y h1 h2) h
theorem lexL_step (x y : List Nat) (k : Nat) (hx : k < x.length) (hy : k < y.length) : lexL (x.drop k) (y.drop k) = if x.getD k 0 = y.getD k 0 then lexL (x.drop (k + 1)) (y.drop (k + 1)) else decide (x.getD k 0 < y.getD k 0) := by
  rw [List.drop_eq_getElem_cons hx, List.drop_eq_getElem_cons hy]
  simp only [lexL, List.getD_eq_getElem?_getD, List.getElem?_eq_getElem hx, List.getElem?_eq_getElem hy, Option.getD_some]

def nums (L : List Nat) : List Value := L.map fun (n : Nat) => Value.int .u64 (n : Int)
theorem drop_nil (x : List Nat) (k : Nat) (h : x.length ≤ k) : x.drop k = [] := List.drop_eq_nil_of_le h
theorem nums_length (L : List Nat) : (nums L).length = L.length := by simp [nums]
theorem nums_getD (L : List Nat) (k : Nat) (h : k < L.length) : (nums L).getD k (.bool false) = .int .u64 (L.getD k 0 : Nat) := by
  simp [nums, List.getD_eq_getElem?_getD, List.getElem?_eq_getElem h]
theorem nums_snoc (L : List Nat) (n : Nat) : nums (L ++ [n]) = nums L ++ [.int .u64 (n : Int)] := by simp [nums]
theorem rd_num {w : World} {A : Option Addr} {L : List Nat} (h : Rd w A (nums L)) (k : Nat) (hk : k < L.length) : ∃ a : Addr, A = some a ∧ w.cell? (a.add k) = some (.int .u64 (L.getD k 0 : Nat)) := by
  obtain ⟨a, e, _, hc⟩ := h k (by rw [nums_length]; exact hk)
  exact ⟨a, e, by rw [hc, nums_getD L k hk]⟩

def cmpI (a b : Nat) : Int := if a < b then -1 else if b < a then 1 else 0
/-- what slices.Compare answers is below 0 just if a stands ahead of b -/
def cmpL : List Nat → List Nat → Int
  | [], [] => 0
  | [], _ :: _ => -1
  | _ :: _, [] => 1
  | a :: x, b :: y => if a = b then cmpL x y else cmpI a b
theorem cmpL_lex : ∀ (x y : List Nat), decide (cmpL x y < 0) = lexL x y
  | [], [] => rfl
  | [], _ :: _ => rfl
  | _ :: _, [] => rfl
  | a :: x, b :: y => by
    by_cases e : a = b
    · simp only [cmpL, lexL, if_pos e]; exact cmpL_lex x y
    · simp only [cmpL, lexL, if_neg e, cmpI]
      by_cases h : a < b
      · rw [if_pos h, decide_eq_true h]; rfl
      · rw [if_neg h, if_pos (by omega), decide_eq_false h]; rfl
theorem cmpL_step (x y : List Nat) (k : Nat) (hx : k < x.length) (hy : k < y.length) : cmpL (x.drop k) (y.drop k) = if x.getD k 0 = y.getD k 0 then cmpL (x.drop (k + 1)) (y.drop (k + 1)) else cmpI (x.getD k 0) (y.getD k 0) := by
  rw [List.drop_eq_getElem_cons hx, List.drop_eq_getElem_cons hy]
  simp only [cmpL, List.getD_eq_getElem?_getD, List.getElem?_eq_getElem hx, List.getElem?_eq_getElem hy, Option.getD_some]

theorem drewN2 (w : World) (a b : Nat) : ∃ n, (w.drewN a).drewN b = w.drewN n := ⟨_, by rw [World.drewN_drewN]⟩
theorem drewN3 (w : World) (a b c : Nat) : ∃ n, ((w.drewN a).drewN b).drewN c = w.drewN n := ⟨_, by rw [World.drewN_drewN, World.drewN_drewN]⟩
theorem ret_bool {a b : Bool} (h : a = b) : Ending.returned (.bool a) = .returned (.bool b) := by rw [h]
set_option maxHeartbeats 2000000 in
theorem rless_any (x y : List Nat) (p q : Option Addr) (c d : Nat) (w : World) (hp : Rd w p (nums x)) (hq : Rd w q (nums y)) (hx : x.length ≤ 9223372036854775807) (hy : y.length ≤ 9223372036854775807) :
    Calls Try.prog 33 #[.slice p x.length c, .slice q y.length d] w fun e w' => e = .returned (.bool (lexL x y)) ∧ ∃ n, w' = w.drewN n := by
  have HP := Lib.hid hp; have HQ := Lib.hid hq
  clear hp hq
  obtain ⟨n, hn⟩ : ∃ n, n = x.length := ⟨_, rfl⟩
  obtain ⟨m, hm⟩ : ∃ m, m = y.length := ⟨_, rfl⟩
  rw [← hn, ← hm]
  rw [← hn] at hx; rw [← hm] at hy
  have HN := Lib.hid hn; have HM := Lib.hid hm
  clear hn hm
  go_enter Try.func33, Try.ntmps33
  go_wp2_with fail
  go_loopw [5] (fun i wr => ∃ k j : Nat, k ≤ n ∧ k ≤ m ∧ i = .int .i64 k ∧ lexL (x.drop k) (y.drop k) = lexL x y ∧ wr = w.drewN j) (fun i _ => n - (intOf i).toNat)
  case atStart => exact ⟨0, 0, by omega, by omega, rfl, rfl, rfl⟩
  case round =>
    obtain ⟨k, j, hk, hkm, rfl, hl, rfl⟩ := hrel
    by_cases hlt : k < n
    · by_cases hlm : k < m
      · obtain ⟨a, rfl, ca⟩ := rd_num HP.out k (by rw [← HN.out]; exact hlt)
        obtain ⟨b, rfl, cb⟩ := rd_num HQ.out k (by rw [← HM.out]; exact hlm)
        rw [lexL_step x y k (by rw [← HN.out]; exact hlt) (by rw [← HM.out]; exact hlm)] at hl
        obtain ⟨u, hu⟩ : ∃ u, u = x.getD k 0 := ⟨_, rfl⟩
        obtain ⟨v, hv⟩ : ∃ v, v = y.getD k 0 := ⟨_, rfl⟩
        rw [← hu, ← hv] at hl
        rw [← hu] at ca; rw [← hv] at cb
        have k0 : (0 : Int) ≤ (k : Int) := by omega
        have k1 : (k : Int) < (n : Int) := by omega
        have k2 : (k : Int) < (m : Int) := by omega
        by_cases he : u = v
        · rw [if_pos he] at hl
          have HL := Lib.hid hl
          have t : ((u : Int) != (v : Int)) = false := by rw [bne_eq_false_iff_eq]; omega
          clear hl hu hv he
          go_wp2_with fail
          go_quiet (fail)
          go_wp2_with fail
          go_roundw
          case rel => exact ⟨k + 1, _, by omega, by omega, by go_num, HL.out, rfl⟩
          case measure => simp [intOf]; omega
        · rw [if_neg he] at hl
          have HL := Lib.hid hl
          have t : ((u : Int) != (v : Int)) = true := by rw [bne_iff_ne]; omega
          have F : Hid (decide ((u : Int) < (v : Int)) = decide (u < v)) := Lib.hid (by simp)
          clear hl hu hv he
          go_wp2_with fail
          go_quiet (fail)
          go_wp2_with fail
          go_quiet (fail)
          go_wp2_with fail
          go_ret
          exact ⟨ret_bool (by rw [← HL.out, ← F.out]), drewN3 _ _ _ _⟩
      · obtain rfl : k = m := by omega
        have F : Hid (decide (n < k) = lexL x y) := Lib.hid (by
          rw [← hl, drop_nil y _ (by rw [← HM.out]; exact Nat.le_refl _), lexL_nil_right]; exact decide_eq_false (by omega))
        clear hl
        go_wp2_with fail
        go_ret
        exact ⟨ret_bool F.out, _, rfl⟩
    · obtain rfl : k = n := by omega
      have F : Hid (decide (k < m) = lexL x y) := Lib.hid (by
        rw [← hl, drop_nil x _ (by rw [← HN.out]; exact Nat.le_refl _), lexL_nil_left, List.length_drop, ← HM.out]
        rw [Bool.eq_iff_iff]; simp; omega)
      clear hl
      go_wp2_with fail
      go_ret
      exact ⟨ret_bool F.out, _, rfl⟩

theorem quiet_at {P : Program} {f : FuncId} {args : Array Value} {w : World} {n : Nat} {v : Value}
    (h : Calls P f args (w.drewN n) fun e w' => e = .returned v ∧ ∃ m, w' = (w.drewN n).drewN m) : Calls P f args (w.drewN n) fun e w'' => e = .returned v ∧ ∃ m, w'' = w.drewN m :=
  h.mono fun _ _ ⟨he, m, hm⟩ => ⟨he, n + m, by rw [hm, World.drewN_drewN]⟩

set_option maxHeartbeats 1000000 in
theorem sameOne_any (x y : List Nat) (p q : Option Addr) (c d : Nat) (w : World) (hp : Rd w p (nums x)) (hq : Rd w q (nums y)) (hx : x.length ≤ 9223372036854775807) (hy : y.length ≤ 9223372036854775807) :
    Calls Try.prog 13 #[.slice p x.length c, .slice q y.length d] w fun e w' => e = .returned (.bool (decide (x = y))) ∧ ∃ n, w' = w.drewN n := by
  have HP := Lib.hid hp; have HQ := Lib.hid hq
  have F := Lib.hid (same_lex x y)
  clear hp hq
  cases h1 : lexL x y with
  | true =>
    have H1 := Lib.hid h1; clear h1
    go_enter Try.func13, Try.ntmps13
    go_wp2_with fail
    refine (rless_any x y p q c d _ HP.out HQ.out hx hy).mono ?_
    rw [H1.out]
    rintro e w1 ⟨rfl, n, rfl⟩
    go_wp2_with fail
    go_ret
    exact ⟨ret_bool (by rw [← F.out, H1.out]; rfl), _, rfl⟩
  | false =>
    have H1 := Lib.hid h1; clear h1
    go_enter Try.func13, Try.ntmps13
    go_wp2_with fail
    refine (rless_any x y p q c d _ HP.out HQ.out hx hy).mono ?_
    rw [H1.out]
    rintro e w1 ⟨rfl, n, rfl⟩
    go_wp2_with fail
    refine (rless_any y x q p d c _ (HQ.out.drewN n) (HP.out.drewN n) hy hx).mono ?_
    rintro e w1 ⟨rfl, m, rfl⟩
    go_wp2_with fail
    go_ret
    exact ⟨ret_bool (by rw [← F.out, H1.out]; rfl), _, rfl⟩

/-- a slice of records, as it is read -/
def RecsAt (w : World) (A : Option Addr) (M : List (List Nat)) : Prop :=
  ∀ i, i < M.length → ∃ (a : Addr) (q : Option Addr) (c : Nat), A = some a ∧ a.block < w.heap.size ∧ w.cell? (a.add i) = some (.slice q (M.getD i []).length c) ∧ Rd w q (nums (M.getD i [])) ∧ (M.getD i []).length ≤ 9223372036854775807
theorem RecsAt.below {w w' : World} {A : Option Addr} {M : List (List Nat)} (h : RecsAt w A M) (hb : Below w.heap.size w w') : RecsAt w' A M := fun i hi => by
  obtain ⟨a, q, c, e, hl, hc, hr, hn⟩ := h i hi
  exact ⟨a, q, c, e, Nat.lt_of_lt_of_le hl hb.size, by rw [hb.cell (by rw [add_block]; exact hl)]; exact hc, hr.below hb, hn⟩
theorem RecsAt.drewN {w : World} {A : Option Addr} {M : List (List Nat)} (h : RecsAt w A M) (n : Nat) : RecsAt (w.drewN n) A M := h.below ⟨rfl, rfl, rfl, Nat.le_refl _, fun _ _ => rfl⟩

def recsEq (M N : List (List Nat)) : Bool := decide (M = N)
theorem recs_step (M N : List (List Nat)) (k : Nat) (h1 : k < M.length) (h2 : k < N.length) (hk : M.take k = N.take k) : (M.getD k [] = N.getD k [] ↔ M.take (k + 1) = N.take (k + 1)) := by
  have e1 := List.take_succ_eq_append_getElem h1
  have e2 := List.take_succ_eq_append_getElem h2
  have a1 : M.getD k [] = M[k] := by simp [List.getD_eq_getElem?_getD, List.getElem?_eq_getElem h1]
  have a2 : N.getD k [] = N[k] := by simp [List.getD_eq_getElem?_getD, List.getElem?_eq_getElem h2]
  rw [e1, e2, a1, a2, hk]
  constructor
  · intro h; rw [h]
  · intro h
    have := List.append_cancel_left h
    simpa using this

end Go.Proofs.Ytgpheofdeflhdaa.Nm
