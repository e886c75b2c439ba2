/- The walks of Less, the program's and the document's; SameOne, Same. Trees of losers: which leaf wins; a key put into the winner's place. No function of the program in sight. -/
import Derived.Test.YtjnehpkkkmicfaaRows
import Derived.Test.YtjnehpkkkmicfaaRow
import Derived.WalkSpells
import Derived.WalkLawsBesides
import Derived.Lib.Strings
import Derived.Lib.Hide
import Derived.Deep.QuietTactic
import Derived.BigQuiet
import Derived.RegionTactic
import Derived.Deep.RegionHeld3
import Derived.Laws.BitsAllLaws
namespace Go.Proofs.Ytjnehpkkkmicfaa.Nm
open Go.RowKit Rw
theorem ret_int {k : IntKind} {a b : Int} (h : a = b) : Ending.returned (.int k a) = .returned (.int k b) := by rw [h]

/-- which of two lists stands ahead -/
def lexL : List Nat → List Nat → Bool
  | [], [] => false
  | [], _ :: _ => true
  | _ :: _, [] => false
  | a :: x, b :: y => if a = b then lexL x y else decide (a < b)
theorem lexL_nil_nil : lexL [] [] = false := rfl
theorem lexL_nil_right (x : List Nat) : lexL x [] = false := by cases x <;> rfl
theorem lexL_nil_left (x : List Nat) : lexL [] x = decide (0 < x.length) := by cases x <;> simp [lexL]
theorem lexL_same (x : List Nat) : lexL x x = false := by
  induction x with
  | nil => rfl
  | cons a x ih => simp [lexL, ih]
theorem lexL_none : ∀ (x y : List Nat), lexL x y = false → lexL y x = false → x = y
  | [], [], _, _ => rfl
  | [], _ :: _, h, _ => by simp [lexL] at h
  | _ :: _, [], _, h => by simp [lexL] at h
  | a :: x, b :: y, h, k => by
    by_cases e : a = b
    · subst e
      simp [lexL] at h k
      rw [lexL_none x y h k]
    · have e2 : ¬ b = a := fun h => e h.symm
      simp [lexL, e, e2] at h k
      omega
theorem same_lex (x y : List Nat) : (!lexL x y && !lexL y x) = decide (x = y) := by
  by_cases h : x = y
  · subst h; simp [lexL_same]
  · rw [decide_eq_false h]
    cases h1 : lexL x y with
    | true => rfl
    | false =>
      cases h2 : lexL y x with
      | true => rfl
      | false => exact absurd (lexL_none x y h1 h2) h
theorem lexL_step (x y : List Nat) (k : Nat) (hx : k < x.length) (hy : k < y.length) : lexL (x.drop k) (y.drop k) = if x.getD k 0 = y.getD k 0 then lexL (x.drop (k + 1)) (y.drop (k + 1)) else decide (x.getD k 0 < y.getD k 0) := by
  rw [List.drop_eq_getElem_cons hx, List.drop_eq_getElem_cons hy]
  simp only [lexL, List.getD_eq_getElem?_getD, List.getElem?_eq_getElem hx, List.getElem?_eq_getElem hy, Option.getD_some]

def nums (L : List Nat) : List Value := L.map fun (n : Nat) => Value.int .u64 (n : Int)
theorem drop_nil (x : List Nat) (k : Nat) (h : x.length ≤ k) : x.drop k = [] := List.drop_eq_nil_of_le h
theorem nums_length (L : List Nat) : (nums L).length = L.length := by simp [nums]
theorem nums_getD (L : List Nat) (k : Nat) (h : k < L.length) : (nums L).getD k (.bool false) = .int .u64 (L.getD k 0 : Nat) := by
  simp [nums, List.getD_eq_getElem?_getD, List.getElem?_eq_getElem h]
theorem nums_snoc (L : List Nat) (n : Nat) : nums (L ++ [n]) = nums L ++ [.int .u64 (n : Int)] := by simp [nums]
theorem rd_num {w : World} {A : Option Addr} {L : List Nat} (h : Rd w A (nums L)) (k : Nat) (hk : k < L.length) : ∃ a : Addr, A = some a ∧ w.cell? (a.add k) = some (.int .u64 (L.getD k 0 : Nat)) := by
  obtain ⟨a, e, _, hc⟩ := h k (by rw [nums_length]; exact hk)
  exact ⟨a, e, by rw [hc, nums_getD L k hk]⟩

def cmpI (a b : Nat) : Int := if a < b then -1 else if b < a then 1 else 0
theorem isNaN_any (n : Nat) (w : World) : Calls Try.prog 92 #[.int .u64 n] w fun e w' => e = .returned (.bool false) ∧ w = w' := by
  go_enter Try.func92, Try.ntmps92
  go_wp2_with fail
  go_ret
  exact ⟨rfl, rfl⟩
set_option maxHeartbeats 1000000 in
theorem cmp_any (a b : Nat) (w : World) : Calls Try.prog 84 #[.int .u64 a, .int .u64 b] w fun e w' => e = .returned (.int .i64 (cmpI a b)) ∧ w = w' := by
  rcases Nat.lt_trichotomy a b with h | h | h
  · have F : Hid (-1 = cmpI a b) := Lib.hid (if_pos h).symm
    go_enter Try.func84, Try.ntmps84
    go_wp2_with (go_at_call 92; refine (isNaN_any _ _).mono ?_; rintro e w' ⟨rfl, rfl⟩)
    go_ret
    exact ⟨ret_int F.out, rfl⟩
  · have F : Hid (0 = cmpI a b) := Lib.hid (by unfold cmpI; rw [if_neg (by omega), if_neg (by omega)])
    go_enter Try.func84, Try.ntmps84
    go_wp2_with (go_at_call 92; refine (isNaN_any _ _).mono ?_; rintro e w' ⟨rfl, rfl⟩)
    go_ret
    exact ⟨ret_int F.out, rfl⟩
  · have F : Hid (1 = cmpI a b) := Lib.hid (by unfold cmpI; rw [if_neg (by omega), if_pos h])
    go_enter Try.func84, Try.ntmps84
    go_wp2_with (go_at_call 92; refine (isNaN_any _ _).mono ?_; rintro e w' ⟨rfl, rfl⟩)
    go_ret
    exact ⟨ret_int F.out, rfl⟩

/-- what slices.Compare answers is below 0 just if a stands ahead of b -/
def cmpL : List Nat → List Nat → Int
  | [], [] => 0
  | [], _ :: _ => -1
  | _ :: _, [] => 1
  | a :: x, b :: y => if a = b then cmpL x y else cmpI a b
theorem cmpL_lex : ∀ (x y : List Nat), decide (cmpL x y < 0) = lexL x y
  | [], [] => rfl
  | [], _ :: _ => rfl
  | _ :: _, [] => rfl
  | a :: x, b :: y => by
    by_cases e : a = b
    · simp only [cmpL, lexL, if_pos e]; exact cmpL_lex x y
    · simp only [cmpL, lexL, if_neg e, cmpI]
      by_cases h : a < b
      · rw [if_pos h, decide_eq_true h]; rfl
      · rw [if_neg h, if_pos (by omega), decide_eq_false h]; rfl
theorem cmpL_step (x y : List Nat) (k : Nat) (hx : k < x.length) (hy : k < y.length) : cmpL (x.drop k) (y.drop k) = if x.getD k 0 = y.getD k 0 then cmpL (x.drop (k + 1)) (y.drop (k + 1)) else cmpI (x.getD k 0) (y.getD k 0) := by
  rw [List.drop_eq_getElem_cons hx, List.drop_eq_getElem_cons hy]
  simp only [cmpL, List.getD_eq_getElem?_getD, List.getElem?_eq_getElem hx, List.getElem?_eq_getElem hy, Option.getD_some]

theorem drewN2 (w : World) (a b : Nat) : ∃ n, (w.drewN a).drewN b = w.drewN n := ⟨_, by rw [World.drewN_drewN]⟩
theorem drewN3 (w : World) (a b c : Nat) : ∃ n, ((w.drewN a).drewN b).drewN c = w.drewN n := ⟨_, by rw [World.drewN_drewN, World.drewN_drewN]⟩
theorem ret_bool {a b : Bool} (h : a = b) : Ending.returned (.bool a) = .returned (.bool b) := by rw [h]
set_option maxHeartbeats 2000000 in
theorem rless_any (x y : List Nat) (p q : Option Addr) (c d : Nat) (w : World) (hp : Rd w p (nums x)) (hq : Rd w q (nums y)) (hx : x.length ≤ 9223372036854775807) (hy : y.length ≤ 9223372036854775807) :
    Calls Try.prog 36 #[.slice p x.length c, .slice q y.length d] w fun e w' => e = .returned (.bool (lexL x y)) ∧ ∃ n, w' = w.drewN n := by
  have HP := Lib.hid hp; have HQ := Lib.hid hq
  clear hp hq
  obtain ⟨n, hn⟩ : ∃ n, n = x.length := ⟨_, rfl⟩
  obtain ⟨m, hm⟩ : ∃ m, m = y.length := ⟨_, rfl⟩
  rw [← hn, ← hm]
  rw [← hn] at hx; rw [← hm] at hy
  have HN := Lib.hid hn; have HM := Lib.hid hm
  clear hn hm
  go_enter Try.func36, Try.ntmps36
  go_wp2_with fail
  go_loopw [5] (fun i wr => ∃ k j : Nat, k ≤ n ∧ k ≤ m ∧ i = .int .i64 k ∧ lexL (x.drop k) (y.drop k) = lexL x y ∧ wr = w.drewN j) (fun i _ => n - (intOf i).toNat)
  case atStart => exact ⟨0, 0, by omega, by omega, rfl, rfl, rfl⟩
  case round =>
    obtain ⟨k, j, hk, hkm, rfl, hl, rfl⟩ := hrel
    by_cases hlt : k < n
    · by_cases hlm : k < m
      · obtain ⟨a, rfl, ca⟩ := rd_num HP.out k (by rw [← HN.out]; exact hlt)
        obtain ⟨b, rfl, cb⟩ := rd_num HQ.out k (by rw [← HM.out]; exact hlm)
        rw [lexL_step x y k (by rw [← HN.out]; exact hlt) (by rw [← HM.out]; exact hlm)] at hl
        obtain ⟨u, hu⟩ : ∃ u, u = x.getD k 0 := ⟨_, rfl⟩
        obtain ⟨v, hv⟩ : ∃ v, v = y.getD k 0 := ⟨_, rfl⟩
        rw [← hu, ← hv] at hl
        rw [← hu] at ca; rw [← hv] at cb
        have k0 : (0 : Int) ≤ (k : Int) := by omega
        have k1 : (k : Int) < (n : Int) := by omega
        have k2 : (k : Int) < (m : Int) := by omega
        by_cases he : u = v
        · rw [if_pos he] at hl
          have HL := Lib.hid hl
          have t : ((u : Int) != (v : Int)) = false := by rw [bne_eq_false_iff_eq]; omega
          clear hl hu hv he
          go_wp2_with fail
          go_quiet (fail)
          go_wp2_with fail
          go_roundw
          case rel => exact ⟨k + 1, _, by omega, by omega, by go_num, HL.out, rfl⟩
          case measure => simp [intOf]; omega
        · rw [if_neg he] at hl
          have HL := Lib.hid hl
          have t : ((u : Int) != (v : Int)) = true := by rw [bne_iff_ne]; omega
          have F : Hid (decide ((u : Int) < (v : Int)) = decide (u < v)) := Lib.hid (by simp)
          clear hl hu hv he
          go_wp2_with fail
          go_quiet (fail)
          go_wp2_with fail
          go_quiet (fail)
          go_wp2_with fail
          go_ret
          exact ⟨ret_bool (by rw [← HL.out, ← F.out]), drewN3 _ _ _ _⟩
      · obtain rfl : k = m := by omega
        have F : Hid (decide (n < k) = lexL x y) := Lib.hid (by
          rw [← hl, drop_nil y _ (by rw [← HM.out]; exact Nat.le_refl _), lexL_nil_right]; exact decide_eq_false (by omega))
        clear hl
        go_wp2_with fail
        go_ret
        exact ⟨ret_bool F.out, _, rfl⟩
    · obtain rfl : k = n := by omega
      have F : Hid (decide (k < m) = lexL x y) := Lib.hid (by
        rw [← hl, drop_nil x _ (by rw [← HN.out]; exact Nat.le_refl _), lexL_nil_left, List.length_drop, ← HM.out]
        rw [Bool.eq_iff_iff]; simp; omega)
      clear hl
      go_wp2_with fail
      go_ret
      exact ⟨ret_bool F.out, _, rfl⟩

theorem quiet_at {P : Program} {f : FuncId} {args : Array Value} {w : World} {n : Nat} {v : Value}
    (h : Calls P f args (w.drewN n) fun e w' => e = .returned v ∧ ∃ m, w' = (w.drewN n).drewN m) : Calls P f args (w.drewN n) fun e w'' => e = .returned v ∧ ∃ m, w'' = w.drewN m :=
  h.mono fun _ _ ⟨he, m, hm⟩ => ⟨he, n + m, by rw [hm, World.drewN_drewN]⟩

set_option maxHeartbeats 1000000 in
theorem sameOne_any (x y : List Nat) (p q : Option Addr) (c d : Nat) (w : World) (hp : Rd w p (nums x)) (hq : Rd w q (nums y)) (hx : x.length ≤ 9223372036854775807) (hy : y.length ≤ 9223372036854775807) :
    Calls Try.prog 16 #[.slice p x.length c, .slice q y.length d] w fun e w' => e = .returned (.bool (decide (x = y))) ∧ ∃ n, w' = w.drewN n := by
  have HP := Lib.hid hp; have HQ := Lib.hid hq
  have F := Lib.hid (same_lex x y)
  clear hp hq
  cases h1 : lexL x y with
  | true =>
    have H1 := Lib.hid h1; clear h1
    go_enter Try.func16, Try.ntmps16
    go_wp2_with fail
    refine (rless_any x y p q c d _ HP.out HQ.out hx hy).mono ?_
    rw [H1.out]
    rintro e w1 ⟨rfl, n, rfl⟩
    go_wp2_with fail
    go_ret
    exact ⟨ret_bool (by rw [← F.out, H1.out]; rfl), _, rfl⟩
  | false =>
    have H1 := Lib.hid h1; clear h1
    go_enter Try.func16, Try.ntmps16
    go_wp2_with fail
    refine (rless_any x y p q c d _ HP.out HQ.out hx hy).mono ?_
    rw [H1.out]
    rintro e w1 ⟨rfl, n, rfl⟩
    go_wp2_with fail
    refine (rless_any y x q p d c _ (HQ.out.drewN n) (HP.out.drewN n) hy hx).mono ?_
    rintro e w1 ⟨rfl, m, rfl⟩
    go_wp2_with fail
    go_ret
    exact ⟨ret_bool (by rw [← F.out, H1.out]; rfl), _, rfl⟩

/-- a slice of records, as it is read -/
def RecsAt (w : World) (A : Option Addr) (M : List (List Nat)) : Prop :=
  ∀ i, i < M.length → ∃ (a : Addr) (q : Option Addr) (c : Nat), A = some a ∧ a.block < w.heap.size ∧ w.cell? (a.add i) = some (.slice q (M.getD i []).length c) ∧ Rd w q (nums (M.getD i [])) ∧ (M.getD i []).length ≤ 9223372036854775807
theorem RecsAt.below {w w' : World} {A : Option Addr} {M : List (List Nat)} (h : RecsAt w A M) (hb : Below w.heap.size w w') : RecsAt w' A M := fun i hi => by
  obtain ⟨a, q, c, e, hl, hc, hr, hn⟩ := h i hi
  exact ⟨a, q, c, e, Nat.lt_of_lt_of_le hl hb.size, by rw [hb.cell (by rw [add_block]; exact hl)]; exact hc, hr.below hb, hn⟩
theorem RecsAt.drewN {w : World} {A : Option Addr} {M : List (List Nat)} (h : RecsAt w A M) (n : Nat) : RecsAt (w.drewN n) A M := h.below ⟨rfl, rfl, rfl, Nat.le_refl _, fun _ _ => rfl⟩

def recsEq (M N : List (List Nat)) : Bool := decide (M = N)
theorem recs_step (M N : List (List Nat)) (k : Nat) (h1 : k < M.length) (h2 : k < N.length) (hk : M.take k = N.take k) : (M.getD k [] = N.getD k [] ↔ M.take (k + 1) = N.take (k + 1)) := by
  have e1 := List.take_succ_eq_append_getElem h1
  have e2 := List.take_succ_eq_append_getElem h2
  have a1 : M.getD k [] = M[k] := by simp [List.getD_eq_getElem?_getD, List.getElem?_eq_getElem h1]
  have a2 : N.getD k [] = N[k] := by simp [List.getD_eq_getElem?_getD, List.getElem?_eq_getElem h2]
  rw [e1, e2, a1, a2, hk]
  constructor
  · intro h; rw [h]
  · intro h
    have := List.append_cancel_left h
    simpa using this

end Go.Proofs.Ytjnehpkkkmicfaa.Nm
namespace Go.Proofs.Ytjnehpkkkmicfaa.Ls
open Nm

/-! ### which of two keys stands ahead -/
theorem lexL_asym : ∀ (x y : List Nat), lexL x y = true → lexL y x = false
  | [], [], h => by simp [lexL] at h
  | [], _ :: _, _ => rfl
  | _ :: _, [], h => by simp [lexL] at h
  | a :: x, b :: y, h => by
    by_cases e : a = b
    · subst e
      simp [lexL] at h ⊢
      exact lexL_asym x y h
    · have e2 : ¬ b = a := fun h => e h.symm
      simp [lexL, e, e2] at h ⊢
      omega
theorem lexL_trans : ∀ (x y z : List Nat), lexL x y = true → lexL y z = true → lexL x z = true
  | [], _, [], _, h => by rw [lexL_nil_right] at h; exact h
  | [], _, _ :: _, _, _ => rfl
  | _ :: _, [], _, h, _ => by simp [lexL] at h
  | _ :: _, _ :: _, [], _, h => by simp [lexL] at h
  | a :: x, b :: y, c :: z, h, k => by
    simp only [lexL] at h k ⊢
    by_cases e : a = b
    · subst e
      rw [if_pos rfl] at h
      by_cases f : a = c
      · subst f
        rw [if_pos rfl] at k ⊢
        exact lexL_trans x y z h k
      · rw [if_neg f] at k ⊢; exact k
    · rw [if_neg e] at h
      by_cases f : b = c
      · subst f; rw [if_neg e]; exact h
      · rw [if_neg f] at k
        simp only [decide_eq_true_eq] at h k
        rw [if_neg (by omega)]
        simp only [decide_eq_true_eq]; omega

/-- whether the key x at the place a beats the key y at the place b -/
def btk (x y : List Nat) (a b : Nat) : Bool :=
  if x.length = 0 ∨ y.length = 0 then decide (0 < x.length) || (decide (y.length = 0) && decide (a < b)) else lexL x y || (!lexL y x && decide (a < b))
theorem btk_same (x : List Nat) (a : Nat) : btk x x a a = false := by
  unfold btk
  split
  · rename_i h; have : x.length = 0 := by omega
    simp [this]
  · simp [lexL_same]
theorem btk_total (x y : List Nat) (a b : Nat) (h : a ≠ b) : btk x y a b = !btk y x b a := by
  have hab : decide (a < b) = !decide (b < a) := by
    rcases Nat.lt_or_gt_of_ne h with h | h
    · rw [decide_eq_true h, decide_eq_false (by omega)]; rfl
    · rw [decide_eq_false (by omega), decide_eq_true h]; rfl
  unfold btk
  by_cases hx : x.length = 0
  · by_cases hy : y.length = 0
    · rw [if_pos (.inl hx), if_pos (.inl hy), hx, hy, hab]
      simp
    · rw [if_pos (.inl hx), if_pos (.inr hx), hx]
      have hy' : decide (0 < y.length) = true := decide_eq_true (by omega)
      rw [hy', decide_eq_false hy]; rfl
  · by_cases hy : y.length = 0
    · rw [if_pos (.inr hy), if_pos (.inl hy), hy]
      have hx' : decide (0 < x.length) = true := decide_eq_true (by omega)
      rw [hx', decide_eq_false hx]; rfl
    · rw [if_neg (by omega), if_neg (by omega)]
      cases h1 : lexL x y with
      | true => rw [lexL_asym x y h1]; rfl
      | false =>
        cases h2 : lexL y x with
        | true => rfl
        | false => rw [hab]; simp
theorem btk_trans (x y z : List Nat) (a b c : Nat) (h : btk x y a b = true) (k : btk y z b c = true) : btk x z a c = true := by
  unfold btk at *
  by_cases hx : x.length = 0
  · rw [if_pos (.inl hx), hx] at h
    simp only [Nat.lt_irrefl, decide_false, Bool.false_or, Bool.and_eq_true, decide_eq_true_eq] at h
    rw [if_pos (.inl h.1), h.1] at k
    simp only [Nat.lt_irrefl, decide_false, Bool.false_or, Bool.and_eq_true, decide_eq_true_eq] at k
    rw [if_pos (.inl hx), hx]
    simp only [Nat.lt_irrefl, decide_false, Bool.false_or, Bool.and_eq_true, decide_eq_true_eq]
    exact ⟨k.1, by omega⟩
  · by_cases hz : z.length = 0
    · rw [if_pos (.inr hz), decide_eq_true (by omega : 0 < x.length)]; rfl
    · rw [if_neg (by omega)]
      have hy : y.length ≠ 0 := by
        intro hy
        rw [if_pos (.inl hy), hy] at k
        simp only [Nat.lt_irrefl, decide_false, Bool.false_or, Bool.and_eq_true, decide_eq_true_eq] at k
        exact hz k.1
      rw [if_neg (by omega)] at h k
      simp only [Bool.or_eq_true, Bool.and_eq_true, Bool.not_eq_true', decide_eq_true_eq] at h k ⊢
      rcases h with h | ⟨h1, h2⟩
      · rcases k with k | ⟨k1, k2⟩
        · exact .inl (lexL_trans x y z h k)
        · cases hyz : lexL y z with
          | true => exact .inl (lexL_trans x y z h hyz)
          | false => rw [← lexL_none y z hyz k1]; exact .inl h
      · cases hxy : lexL x y with
        | true =>
          rcases k with k | ⟨k1, k2⟩
          · exact .inl (lexL_trans x y z hxy k)
          · cases hyz : lexL y z with
            | true => exact .inl (lexL_trans x y z hxy hyz)
            | false => rw [← lexL_none y z hyz k1]; exact .inl hxy
        | false =>
          have e := lexL_none x y hxy h1
          subst e
          rcases k with k | ⟨k1, k2⟩
          · exact .inl k
          · exact .inr ⟨k1, by omega⟩

/-! ### the tree -/
abbrev Keys := List (List Nat)
def kat (K : Keys) (i : Nat) : List Nat := K.getD i []
/-- whether a leaf beats another one -/
def bt (K : Keys) (a b : Nat) : Bool := btk (kat K a) (kat K b) a b
theorem bt_same (K : Keys) (a : Nat) : bt K a a = false := btk_same _ _
theorem bt_total (K : Keys) {a b : Nat} (h : a ≠ b) : bt K a b = !bt K b a := btk_total _ _ _ _ h
theorem bt_trans (K : Keys) {a b c : Nat} (h : bt K a b = true) (k : bt K b c = true) : bt K a c = true := btk_trans _ _ _ _ _ _ h k

/-- which leaf wins below a node -/
def win (K : Keys) : Nat → Nat → Nat
  | 0, n => n - K.length
  | f + 1, n => if K.length ≤ n then n - K.length else if bt K (win K f (2 * n + 1)) (win K f (2 * n)) = true then win K f (2 * n + 1) else win K f (2 * n)
def wn (K : Keys) (n : Nat) : Nat := win K K.length n
/-- which leaf loses at a node -/
def lo (K : Keys) (n : Nat) : Nat := if bt K (wn K (2 * n + 1)) (wn K (2 * n)) = true then wn K (2 * n) else wn K (2 * n + 1)
def build (K : Keys) : List Nat := (List.range K.length).map fun n => if n = 0 then wn K 1 else lo K n
theorem build_length (K : Keys) : (build K).length = K.length := by simp [build]
theorem build_get (K : Keys) (n : Nat) (h : n < K.length) : (build K).getD n 0 = if n = 0 then wn K 1 else lo K n := by
  simp [build, List.getD_eq_getElem?_getD, h]

section
variable {K : Keys}
theorem win_fuel : ∀ (f g n : Nat), 1 ≤ n → K.length ≤ n + f → K.length ≤ n + g → win K f n = win K g n
  | 0, 0, _, _, _, _ => rfl
  | 0, g + 1, n, _, h, _ => by rw [win, win, if_pos (by omega)]
  | f + 1, 0, n, _, _, h => by rw [win, win, if_pos (by omega)]
  | f + 1, g + 1, n, h1, h2, h3 => by
    rw [win, win]
    by_cases hl : K.length ≤ n
    · rw [if_pos hl, if_pos hl]
    · rw [if_neg hl, if_neg hl, win_fuel f g (2 * n) (by omega) (by omega) (by omega), win_fuel f g (2 * n + 1) (by omega) (by omega) (by omega)]
theorem wn_leaf {n : Nat} (h : K.length ≤ n) : wn K n = n - K.length := by
  unfold wn
  cases hk : K.length with
  | zero => rw [win, hk]
  | succ k => rw [win, if_pos h, hk]
theorem wn_node {n : Nat} (h1 : 1 ≤ n) (h : n < K.length) : wn K n = if bt K (wn K (2 * n + 1)) (wn K (2 * n)) = true then wn K (2 * n + 1) else wn K (2 * n) := by
  have e : ∃ k, K.length = k + 1 := ⟨K.length - 1, by omega⟩
  obtain ⟨k, hk⟩ := e
  have a1 : win K k (2 * n) = wn K (2 * n) := win_fuel _ _ _ (by omega) (by omega) (by omega)
  have a2 : win K k (2 * n + 1) = wn K (2 * n + 1) := win_fuel _ _ _ (by omega) (by omega) (by omega)
  rw [← a1, ← a2]
  show win K K.length n = _
  rw [hk, win, if_neg (by omega)]
theorem win_lt : ∀ (f n : Nat), 1 ≤ n → n < 2 * K.length → K.length ≤ n + f → win K f n < K.length
  | 0, n, _, h, h2 => by rw [win]; omega
  | f + 1, n, h1, h, h2 => by
    rw [win]
    split
    · omega
    · split
      · exact win_lt f _ (by omega) (by omega) (by omega)
      · exact win_lt f _ (by omega) (by omega) (by omega)
theorem wn_lt {n : Nat} (h1 : 1 ≤ n) (h : n < 2 * K.length) : wn K n < K.length := win_lt _ _ h1 h (by omega)
theorem lo_lt {n : Nat} (h1 : 1 ≤ n) (h : n < K.length) : lo K n < K.length := by
  unfold lo
  split
  · exact wn_lt (by omega) (by omega)
  · exact wn_lt (by omega) (by omega)

/-- a node stands above a place -/
def Anc (n p : Nat) : Prop := ∃ j, p / 2 ^ j = n
theorem anc_half {n p : Nat} (h : Anc n p) : Anc (n / 2) p := by
  obtain ⟨j, rfl⟩ := h
  exact ⟨j + 1, by rw [Nat.pow_succ, Nat.div_div_eq_div_mul]⟩
theorem win_anc : ∀ (f n : Nat), 1 ≤ n → K.length ≤ n + f → Anc n (K.length + win K f n)
  | 0, n, _, h => ⟨0, by rw [win]; simp; omega⟩
  | f + 1, n, h1, h => by
    rw [win]
    split
    · exact ⟨0, by simp; omega⟩
    · split
      · have := anc_half (win_anc f (2 * n + 1) (by omega) (by omega))
        rwa [show (2 * n + 1) / 2 = n by omega] at this
      · have := anc_half (win_anc f (2 * n) (by omega) (by omega))
        rwa [show (2 * n) / 2 = n by omega] at this
theorem wn_anc {n : Nat} (h1 : 1 ≤ n) : Anc n (K.length + wn K n) := win_anc _ _ h1 (by omega)
theorem one_anc : ∀ (p : Nat), 1 ≤ p → ∃ j, p / 2 ^ j = 1 := by
  intro p
  induction p using Nat.strongRecOn with
  | ind p ih =>
    intro h
    by_cases h1 : p = 1
    · exact ⟨0, by simp [h1]⟩
    · obtain ⟨j, hj⟩ := ih (p / 2) (by omega) (by omega)
      exact ⟨j + 1, by rw [Nat.pow_succ, Nat.mul_comm, ← Nat.div_div_eq_div_mul]; exact hj⟩
theorem div_le_half {p a b : Nat} (h : a < b) : p / 2 ^ b ≤ (p / 2 ^ a) / 2 := by
  obtain ⟨d, rfl⟩ : ∃ d, b = a + 1 + d := ⟨b - (a + 1), by omega⟩
  rw [Nat.pow_add, Nat.pow_succ, ← Nat.div_div_eq_div_mul, ← Nat.div_div_eq_div_mul]
  exact Nat.div_le_self _ _
/-- of two nodes side by side one alone stands above a place -/
theorem anc_side {n p : Nat} (h1 : 1 ≤ n) (h : Anc (2 * n) p) (k : Anc (2 * n + 1) p) : False := by
  obtain ⟨a, ha⟩ := h
  obtain ⟨b, hb⟩ := k
  rcases Nat.lt_trichotomy a b with h | h | h
  · have := div_le_half (p := p) h; omega
  · subst h; omega
  · have := div_le_half (p := p) h; omega
/-- between a node above a place and the next one there is none -/
theorem anc_gap {c x p : Nat} (h : Anc c p) (h1 : c / 2 < x) (h2 : x < c) : ¬ Anc x p := by
  obtain ⟨a, ha⟩ := h
  rintro ⟨b, hb⟩
  rcases Nat.lt_trichotomy a b with h | h | h
  · have := div_le_half (p := p) h; omega
  · subst h; omega
  · have := div_le_half (p := p) h; omega

/-! ### the winner is the least -/
def Le (K : Keys) (a b : Nat) : Prop := a = b ∨ bt K a b = true
theorem Le.trans {a b c : Nat} (h : Le K a b) (k : Le K b c) : Le K a c := by
  rcases h with rfl | h
  · exact k
  · rcases k with rfl | k
    · exact .inr h
    · exact .inr (bt_trans K h k)
theorem pick_le (a b : Nat) : Le K (if bt K b a = true then b else a) a ∧ Le K (if bt K b a = true then b else a) b := by
  by_cases h : bt K b a = true
  · rw [if_pos h]; exact ⟨.inr h, .inl rfl⟩
  · rw [if_neg h]
    by_cases e : a = b
    · exact ⟨.inl rfl, .inl e⟩
    · refine ⟨.inl rfl, .inr ?_⟩
      rw [bt_total K e]; simpa using h
theorem wn_least {j : Nat} (hj : j < K.length) : ∀ (k n : Nat), (K.length + j) / 2 ^ k = n → 1 ≤ n → Le K (wn K n) j
  | 0, n, h, _ => by
    have e : n = K.length + j := by simpa using h.symm
    rw [e, wn_leaf (by omega)]; exact .inl (by omega)
  | k + 1, n, h, h1 => by
    have hc : (K.length + j) / 2 ^ k / 2 = n := by rw [Nat.div_div_eq_div_mul, ← Nat.pow_succ]; exact h
    have ih := wn_least hj k _ rfl (by omega)
    obtain ⟨c, hcc⟩ : ∃ c, c = (K.length + j) / 2 ^ k := ⟨_, rfl⟩
    rw [← hcc] at hc ih
    have hcl : c ≤ K.length + j := by rw [hcc]; exact Nat.div_le_self _ _
    rw [wn_node h1 (by omega)]
    have hp := pick_le (K := K) (wn K (2 * n)) (wn K (2 * n + 1))
    rcases (by omega : c = 2 * n ∨ c = 2 * n + 1) with e | e
    · rw [e] at ih; exact hp.1.trans ih
    · rw [e] at ih; exact hp.2.trans ih
theorem wn_top {j : Nat} (hj : j < K.length) : Le K (wn K 1) j := by
  obtain ⟨k, hk⟩ := one_anc (K.length + j) (by omega)
  exact wn_least hj k 1 hk (by omega)

/-! ### another key in the winner's place -/
theorem kat_set_ne {i j : Nat} (x : List Nat) (h : i ≠ j) : kat (K.set i x) j = kat K j := by
  simp [kat, List.getD_eq_getElem?_getD, List.getElem?_set_ne h]
theorem kat_set_same {i : Nat} (x : List Nat) (h : i < K.length) : kat (K.set i x) i = x := by
  simp [kat, List.getD_eq_getElem?_getD, h]
theorem bt_set_ne {i a b : Nat} (x : List Nat) (ha : i ≠ a) (hb : i ≠ b) : bt (K.set i x) a b = bt K a b := by
  unfold bt; rw [kat_set_ne x ha, kat_set_ne x hb]
theorem win_set {i : Nat} (x : List Nat) : ∀ (f n : Nat), 1 ≤ n → K.length ≤ n + f → ¬ Anc n (K.length + i) → win (K.set i x) f n = win K f n
  | 0, n, _, _, _ => by rw [win, win, List.length_set]
  | f + 1, n, h1, h, hn => by
    rw [win, win, List.length_set]
    by_cases hl : K.length ≤ n
    · rw [if_pos hl, if_pos hl]
    · have n1 : ¬ Anc (2 * n) (K.length + i) := fun h => hn (by have := anc_half h; rwa [show 2 * n / 2 = n by omega] at this)
      have n2 : ¬ Anc (2 * n + 1) (K.length + i) := fun h => hn (by have := anc_half h; rwa [show (2 * n + 1) / 2 = n by omega] at this)
      have a1 := win_anc (K := K) f (2 * n) (by omega) (by omega)
      have a2 := win_anc (K := K) f (2 * n + 1) (by omega) (by omega)
      rw [if_neg hl, if_neg hl, win_set x f (2 * n) (by omega) (by omega) n1, win_set x f (2 * n + 1) (by omega) (by omega) n2,
        bt_set_ne x (fun e => n2 (by rw [e]; exact a2)) (fun e => n1 (by rw [e]; exact a1))]
theorem wn_set {i n : Nat} (x : List Nat) (h1 : 1 ≤ n) (hn : ¬ Anc n (K.length + i)) : wn (K.set i x) n = wn K n := by
  unfold wn; rw [List.length_set]; exact win_set x _ _ h1 (by omega) hn
theorem wn_up {i c : Nat} (hc : 2 ≤ c) (hl : c < 2 * K.length) (hA : Anc c (K.length + i)) (h : wn K c ≠ i) : wn K (c / 2) ≠ i := by
  rw [wn_node (by omega) (by omega)]
  have hs : ∀ s, 1 ≤ s → ¬ Anc s (K.length + i) → wn K s ≠ i := fun s h1 hn e => hn (by rw [← e]; exact wn_anc h1)
  rcases (by omega : c = 2 * (c / 2) ∨ c = 2 * (c / 2) + 1) with e | e
  · have h2 : wn K (2 * (c / 2) + 1) ≠ i := hs _ (by omega) (fun h => anc_side (by omega) (by rw [← e]; exact hA) h)
    split
    · exact h2
    · rw [← e]; exact h
  · have h2 : wn K (2 * (c / 2)) ≠ i := hs _ (by omega) (fun h => anc_side (by omega) h (by rw [← e]; exact hA))
    split
    · rw [← e]; exact h
    · exact h2
theorem wn_above {i : Nat} (h : wn K 1 = i) : ∀ (j c : Nat), Anc c (K.length + i) → 1 ≤ c → c < 2 * K.length → c / 2 ^ j = 1 → wn K c = i
  | 0, c, _, _, _, hj => by
    have : c = 1 := by simpa using hj
    rw [this]; exact h
  | j + 1, c, hA, h1, hl, hj => by
    by_cases hc : wn K c = i
    · exact hc
    · by_cases h2 : 2 ≤ c
      · have hA2 := anc_half hA
        have := wn_above h j (c / 2) hA2 (by omega) (by omega) (by rw [← hj, Nat.pow_succ, Nat.mul_comm, ← Nat.div_div_eq_div_mul])
        exact absurd this (wn_up h2 hl hA hc)
      · have : c = 1 := by omega
        rw [this]; exact h

/-- the nodes above a place -/
def pathF : Nat → Nat → List Nat
  | 0, _ => []
  | f + 1, n => if n = 0 then [] else n :: pathF f (n / 2)
theorem pathF_fuel : ∀ (f g n : Nat), n ≤ f → n ≤ g → pathF f n = pathF g n
  | 0, 0, _, _, _ => rfl
  | 0, g + 1, n, h, _ => by rw [pathF, pathF, if_pos (by omega)]
  | f + 1, 0, n, _, h => by rw [pathF, pathF, if_pos (by omega)]
  | f + 1, g + 1, n, h, k => by
    rw [pathF, pathF]
    by_cases h0 : n = 0
    · rw [if_pos h0, if_pos h0]
    · rw [if_neg h0, if_neg h0, pathF_fuel f g (n / 2) (by omega) (by omega)]
def path (n : Nat) : List Nat := pathF n n
theorem path_zero : path 0 = [] := rfl
theorem path_pos {n : Nat} (h : 1 ≤ n) : path n = n :: path (n / 2) := by
  unfold path
  obtain ⟨k, rfl⟩ : ∃ k, n = k + 1 := ⟨n - 1, by omega⟩
  rw [pathF, if_neg (by omega), pathF_fuel k ((k + 1) / 2) ((k + 1) / 2) (by omega) (by omega)]

/-- one step of a new key up the tree -/
def putS (K : Keys) (s : Nat × List Nat) (n : Nat) : Nat × List Nat := if bt K (s.2.getD n 0) s.1 = true then (s.2.getD n 0, s.2.set n s.1) else s
def putT (K : Keys) (T : List Nat) (i : Nat) : List Nat :=
  let r := (path ((K.length + i) / 2)).foldl (putS K) (i, T)
  r.2.set 0 r.1

/-- what holds between two steps: the nodes down to c are done -/
def PutInv (K K' : Keys) (c : Nat) (s : Nat × List Nat) : Prop :=
  s.1 = wn K' c ∧ s.2.length = K.length ∧ ∀ n, 1 ≤ n → n < K.length → s.2.getD n 0 = if c ≤ n then lo K' n else lo K n
theorem lo_set {i n : Nat} (x : List Nat) (h1 : 1 ≤ n) (hn : ¬ Anc n (K.length + i)) : lo (K.set i x) n = lo K n := by
  have n1 : ¬ Anc (2 * n) (K.length + i) := fun h => hn (by have := anc_half h; rwa [show 2 * n / 2 = n by omega] at this)
  have n2 : ¬ Anc (2 * n + 1) (K.length + i) := fun h => hn (by have := anc_half h; rwa [show (2 * n + 1) / 2 = n by omega] at this)
  have a1 := wn_anc (K := K) (n := 2 * n) (by omega)
  have a2 := wn_anc (K := K) (n := 2 * n + 1) (by omega)
  unfold lo
  rw [wn_set x (by omega) n1, wn_set x (by omega) n2, bt_set_ne x (fun e => n2 (by rw [e]; exact a2)) (fun e => n1 (by rw [e]; exact a1))]
/-- the two of a node, whichever way they are asked -/
theorem two_ways (K : Keys) (a b : Nat) : (if bt K b a = true then b else a) = (if bt K a b = true then a else b) ∧ (if bt K b a = true then a else b) = (if bt K a b = true then b else a) := by
  by_cases e : a = b
  · subst e; simp
  · have h := bt_total K e
    cases h1 : bt K b a with
    | true => rw [h1] at h; simp [h]
    | false => rw [h1] at h; simp [h]
theorem put_step {i c : Nat} (x : List Nat) (hw : wn K 1 = i) (hA : Anc c (K.length + i)) (hc : 2 ≤ c) (hl : c < 2 * K.length) {s : Nat × List Nat} (h : PutInv K (K.set i x) c s) :
    PutInv K (K.set i x) (c / 2) (putS (K.set i x) s (c / 2)) := by
  obtain ⟨h1, h2, h3⟩ := h
  obtain ⟨n, hn⟩ : ∃ n, n = c / 2 := ⟨_, rfl⟩
  rw [← hn]
  have n1 : 1 ≤ n := by omega
  have nl : n < K.length := by omega
  have nl' : n < (K.set i x).length := by rw [List.length_set]; exact nl
  obtain ⟨j, hj⟩ := one_anc c (by omega)
  have hwc : wn K c = i := wn_above hw j c hA (by omega) hl hj
  -- the sibling
  obtain ⟨s', hs', hcase⟩ : ∃ s', ¬ Anc s' (K.length + i) ∧ ((c = 2 * n ∧ s' = 2 * n + 1) ∨ (c = 2 * n + 1 ∧ s' = 2 * n)) := by
    rcases (by omega : c = 2 * n ∨ c = 2 * n + 1) with e | e
    · exact ⟨2 * n + 1, fun h => anc_side n1 (by rw [← e]; exact hA) h, .inl ⟨e, rfl⟩⟩
    · exact ⟨2 * n, fun h => anc_side n1 h (by rw [← e]; exact hA), .inr ⟨e, rfl⟩⟩
  have hs1 : 1 ≤ s' := by omega
  have hws : wn (K.set i x) s' = wn K s' := wn_set x hs1 hs'
  have hne : wn K s' ≠ i := fun e => hs' (by rw [← e]; exact wn_anc hs1)
  have hTn : s.2.getD n 0 = wn K s' := by
    rw [h3 n n1 nl, if_neg (by omega)]
    have hup : wn K n = i := by
      obtain ⟨j2, hj2⟩ := one_anc n n1
      exact wn_above hw j2 n (by rw [hn]; exact anc_half hA) n1 (by omega) hj2
    rw [wn_node n1 nl] at hup
    unfold lo
    rcases hcase with ⟨e1, e2⟩ | ⟨e1, e2⟩
    · rw [← e2, ← e1, hwc] at hup ⊢
      by_cases hb : bt K (wn K s') i = true
      · rw [if_pos hb] at hup; exact absurd hup hne
      · rw [if_neg hb]
    · rw [← e1, ← e2, hwc] at hup ⊢
      by_cases hb : bt K i (wn K s') = true
      · rw [if_pos hb]
      · rw [if_neg hb] at hup; exact absurd hup hne
  have hnode : wn (K.set i x) n = (if bt (K.set i x) (wn K s') (wn (K.set i x) c) = true then wn K s' else wn (K.set i x) c) ∧
      lo (K.set i x) n = (if bt (K.set i x) (wn K s') (wn (K.set i x) c) = true then wn (K.set i x) c else wn K s') := by
    rw [wn_node n1 nl']
    unfold lo
    rcases hcase with ⟨e1, e2⟩ | ⟨e1, e2⟩
    · rw [← e2, ← e1, hws]; exact ⟨rfl, rfl⟩
    · rw [← e1, ← e2, hws]
      have := two_ways (K.set i x) (wn K s') (wn (K.set i x) c)
      exact ⟨this.1, this.2⟩
  have hnodes : ∀ m, 1 ≤ m → m < K.length → m ≠ n → s.2.getD m 0 = if n ≤ m then lo (K.set i x) m else lo K m := by
    intro m m1 ml mn
    rw [h3 m m1 ml]
    by_cases hcm : c ≤ m
    · rw [if_pos hcm, if_pos (by omega)]
    · rw [if_neg hcm]
      by_cases hnm : n ≤ m
      · rw [if_pos hnm, lo_set x m1 (anc_gap hA (by omega) (by omega))]
      · rw [if_neg hnm]
  unfold putS
  rw [hTn, h1]
  by_cases hb : bt (K.set i x) (wn K s') (wn (K.set i x) c) = true
  · rw [if_pos hb] at hnode ⊢
    rw [if_pos hb] at hnode
    refine ⟨hnode.1.symm, by simpa using h2, fun m m1 ml => ?_⟩
    by_cases e : m = n
    · subst e
      rw [if_pos (Nat.le_refl _), hnode.2]
      simp [List.getD_eq_getElem?_getD, h2, ml]
    · rw [← hnodes m m1 ml e]
      simp [List.getD_eq_getElem?_getD, List.getElem?_set_ne (fun h => e h.symm)]
  · rw [if_neg hb] at hnode ⊢
    rw [if_neg hb] at hnode
    refine ⟨by rw [h1]; exact hnode.1.symm, h2, fun m m1 ml => ?_⟩
    by_cases e : m = n
    · subst e
      rw [if_pos (Nat.le_refl _), hnode.2, hTn]
    · exact hnodes m m1 ml e
theorem put_go {i : Nat} (x : List Nat) (hw : wn K 1 = i) : ∀ (c : Nat) (s : Nat × List Nat), Anc c (K.length + i) → 1 ≤ c → c < 2 * K.length → PutInv K (K.set i x) c s →
    PutInv K (K.set i x) 1 ((path (c / 2)).foldl (putS (K.set i x)) s) := by
  intro c
  induction c using Nat.strongRecOn with
  | ind c ih =>
    intro s hA h1 hl h
    by_cases h2 : 2 ≤ c
    · rw [path_pos (by omega), List.foldl_cons]
      exact ih (c / 2) (by omega) _ (anc_half hA) (by omega) (by omega) (put_step x hw hA h2 hl h)
    · have e : c = 1 := by omega
      subst e
      exact h
theorem put_build {i : Nat} (x : List Nat) (hw : wn K 1 = i) (hi : i < K.length) : putT (K.set i x) (build K) i = build (K.set i x) := by
  have h0 : PutInv K (K.set i x) (K.length + i) (i, build K) := by
    refine ⟨?_, build_length K, fun n n1 nl => ?_⟩
    · rw [wn_leaf (by rw [List.length_set]; omega), List.length_set]; simp
    · rw [if_neg (by omega)]
      show (build K).getD n 0 = _
      rw [build_get K n nl, if_neg (by omega)]
  have h := put_go x hw (K.length + i) (i, build K) ⟨0, by simp⟩ (by omega) (by omega) h0
  unfold putT
  rw [List.length_set]
  obtain ⟨h1, h2, h3⟩ := h
  apply List.ext_getElem?
  intro n
  by_cases hn : n < K.length
  · have hb := build_get (K.set i x) n (by rw [List.length_set]; exact hn)
    have hbl : n < (build (K.set i x)).length := by rw [build_length, List.length_set]; exact hn
    have e2 : (build (K.set i x))[n]? = some ((build (K.set i x)).getD n 0) := by rw [List.getD_eq_getElem?_getD, List.getElem?_eq_getElem hbl]; rfl
    rw [e2, hb]
    by_cases h0 : n = 0
    · subst h0
      rw [if_pos rfl]
      simp only []
      rw [List.getElem?_set_self (by rw [h2]; exact hn), h1]
    · rw [if_neg h0]
      simp only []
      rw [List.getElem?_set_ne (fun h => h0 h.symm)]
      have := h3 n (by omega) hn
      rw [if_pos (by omega)] at this
      rw [← this, List.getD_eq_getElem?_getD, List.getElem?_eq_getElem (by rw [h2]; exact hn)]; rfl
  · rw [List.getElem?_eq_none (by simp only [List.length_set]; rw [h2]; omega), List.getElem?_eq_none (by rw [build_length, List.length_set]; omega)]
end
end Go.Proofs.Ytjnehpkkkmicfaa.Ls
