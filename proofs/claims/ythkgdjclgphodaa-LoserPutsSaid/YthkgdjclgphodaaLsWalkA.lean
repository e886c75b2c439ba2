/- The walks of isMany, of beats (the program's and the document's), of slices.Equal over numbers. -/
import Derived.Test.YthkgdjclgphodaaLsMath
import Derived.Laws.OwnMore
namespace Go.Proofs.Ythkgdjclgphodaa.Ls
open Go.RowKit Rw Nm

def zs (L : List Int) : List Value := L.map fun (n : Int) => Value.int .i64 n
theorem zs_length (L : List Int) : (zs L).length = L.length := by simp [zs]
theorem zs_getD (L : List Int) (k : Nat) (h : k < L.length) : (zs L).getD k (.bool false) = .int .i64 (L.getD k 0) := by
  simp [zs, List.getD_eq_getElem?_getD, List.getElem?_eq_getElem h]
theorem zs_set (L : List Int) (k : Nat) (v : Int) : (zs L).set k (.int .i64 v) = zs (L.set k v) := by simp [zs, List.map_set]
theorem zs_snoc (L : List Int) (n : Int) : zs (L ++ [n]) = zs L ++ [.int .i64 n] := by simp [zs]
theorem rd_z {w : World} {A : Option Addr} {L : List Int} (h : Rd w A (zs L)) (k : Nat) (hk : k < L.length) : ∃ a : Addr, A = some a ∧ w.cell? (a.add k) = some (.int .i64 (L.getD k 0)) := by
  obtain ⟨a, e, _, hc⟩ := h k (by rw [zs_length]; exact hk)
  exact ⟨a, e, by rw [hc, zs_getD L k hk]⟩
/-- places, as numbers of the program -/
def up (L : List Nat) : List Int := L.map fun (n : Nat) => (n : Int)
theorem up_length (L : List Nat) : (up L).length = L.length := by simp [up]
theorem up_getD (L : List Nat) (k : Nat) (h : k < L.length) : (up L).getD k 0 = (L.getD k 0 : Nat) := by
  simp [up, List.getD_eq_getElem?_getD, List.getElem?_eq_getElem h]
theorem up_set (L : List Nat) (k v : Nat) : (up L).set k (v : Int) = up (L.set k v) := by simp [up, List.map_set]
theorem up_inj : ∀ {L M : List Nat}, up L = up M → L = M
  | [], [], _ => rfl
  | [], _ :: _, h => by simp [up] at h
  | _ :: _, [], h => by simp [up] at h
  | a :: L, b :: M, h => by
    simp only [up, List.map_cons, List.cons.injEq] at h
    have h1 : a = b := by omega
    rw [h1, up_inj (L := L) (M := M) h.2]
theorem drewN_all (w : World) (a : Nat) : ∃ n, w.drewN a = w.drewN n := ⟨a, rfl⟩
theorem quiet2 {P : Program} {f : FuncId} {args : Array Value} {w : World} {v : Value}
    (h : ∀ n, Calls P f args (w.drewN n) fun e w' => e = .returned v ∧ w.drewN n = w') (n : Nat) : Calls P f args (w.drewN n) fun e w'' => e = .returned v ∧ ∃ m, w'' = w.drewN m :=
  (h n).mono fun _ _ ⟨he, hm⟩ => ⟨he, n, hm.symm⟩

theorem isMany_any (n : Nat) (w : World) (hn : n ≤ 9223372036854775807) : Calls Try.prog 24 #[.int .i64 n] w fun e w' => e = .returned (.bool (decide (1 ≤ n ∧ n ≤ 256))) ∧ w = w' := by
  by_cases h1 : 1 ≤ n
  · have F : Hid (decide ((n : Int) ≤ 256) = decide (1 ≤ n ∧ n ≤ 256)) := Lib.hid (by rw [Bool.eq_iff_iff]; simp; omega)
    have t : decide ((1 : Int) ≤ (n : Int)) = true := decide_eq_true (by omega)
    go_enter Try.func24, Try.ntmps24
    go_wp2_with fail
    go_ret
    exact ⟨ret_bool F.out, rfl⟩
  · have F : Hid (false = decide (1 ≤ n ∧ n ≤ 256)) := Lib.hid (by rw [Bool.eq_iff_iff]; simp; omega)
    have t : decide ((1 : Int) ≤ (n : Int)) = false := decide_eq_false (by omega)
    go_enter Try.func24, Try.ntmps24
    go_wp2_with fail
    go_ret
    exact ⟨ret_bool F.out, rfl⟩

section
variable {K : Keys} {p : Option Addr} {c a b : Nat} {w : World}
set_option maxHeartbeats 2000000 in
set_option maxRecDepth 100000 in
theorem beats_any (ha : a < K.length) (hb : b < K.length) (h : RecsAt w p K) :
    Calls Try.prog 40 #[.slice p K.length c, .int .i64 a, .int .i64 b] w fun e w' => e = .returned (.bool (bt K a b)) ∧ ∃ n, w' = w.drewN n := by
  obtain ⟨A, q, d, rfl, _, ca, hra, hal⟩ := h a ha
  obtain ⟨A2, q2, d2, e2, _, cb, hrb, hbl⟩ := h b hb
  cases e2
  obtain ⟨x, hx⟩ : ∃ x, x = K.getD a [] := ⟨_, rfl⟩
  obtain ⟨y, hy⟩ : ∃ y, y = K.getD b [] := ⟨_, rfl⟩
  obtain ⟨n, hn⟩ : ∃ n, n = K.length := ⟨_, rfl⟩
  rw [← hx] at ca hra hal
  rw [← hy] at cb hrb hbl
  have F0 : btk x y a b = bt K a b := by unfold bt kat; rw [hx, hy]
  rw [← F0]
  rw [← hn] at ha hb ⊢
  have L1 : Hid (∀ k, Calls Try.prog 23 #[.slice q x.length d, .slice q2 y.length d2] (w.drewN k) fun e w' => e = .returned (.bool (lexL x y)) ∧ w.drewN k = w') :=
    Lib.hid fun k => less_any x y q q2 d d2 _ (hra.drewN k) (hrb.drewN k) hal hbl
  have L2 : Hid (∀ k, Calls Try.prog 23 #[.slice q2 y.length d2, .slice q x.length d] (w.drewN k) fun e w' => e = .returned (.bool (lexL y x)) ∧ w.drewN k = w') :=
    Lib.hid fun k => less_any y x q2 q d2 d _ (hrb.drewN k) (hra.drewN k) hbl hal
  clear h hra hrb hx hy hn F0
  have G : Hid (btk x y a b = if x.length = 0 ∨ y.length = 0 then decide (0 < x.length) || (decide (y.length = 0) && decide (a < b)) else lexL x y || (!lexL y x && decide (a < b))) := Lib.hid rfl
  obtain ⟨r, hr⟩ : ∃ r, r = btk x y a b := ⟨_, rfl⟩
  rw [← hr] at G ⊢
  clear hr
  obtain ⟨lx, hlx⟩ : ∃ lx, lx = x.length := ⟨_, rfl⟩
  obtain ⟨ly, hly⟩ : ∃ ly, ly = y.length := ⟨_, rfl⟩
  rw [← hlx, ← hly] at L1 L2 G
  rw [← hlx] at ca hal; rw [← hly] at cb hbl
  obtain ⟨u, hu⟩ : ∃ u, u = lexL x y := ⟨_, rfl⟩
  obtain ⟨v, hv⟩ : ∃ v, v = lexL y x := ⟨_, rfl⟩
  rw [← hu] at L1 G; rw [← hv] at L2 G
  clear hlx hly hu hv
  have a0 : (0 : Int) ≤ (a : Int) := by omega
  have a1 : (a : Int) < (n : Int) := by omega
  have b0 : (0 : Int) ≤ (b : Int) := by omega
  have b1 : (b : Int) < (n : Int) := by omega
  clear ha hb
  go_enter Try.func40, Try.ntmps40
  go_wp2_with fail
  go_quiet (fail)
  by_cases x0 : lx = 0
  · subst x0
    by_cases y0 : ly = 0
    · subst y0
      have E : Hid (decide (a < b) = r) := Lib.hid (by rw [G.out]; simp)
      clear G L1 L2
      go_wp2_with fail
      go_ret
      exact ⟨ret_bool E.out, nq, rfl⟩
    · have t : ((ly : Int) == 0) = false := by rw [beq_eq_false_iff_ne]; omega
      have E : Hid (false = r) := Lib.hid (by rw [G.out]; simp [y0])
      clear G L1 L2
      go_wp2_with fail
      go_ret
      exact ⟨ret_bool E.out, nq, rfl⟩
  · have t1 : ((lx : Int) == 0) = false := by rw [beq_eq_false_iff_ne]; omega
    have t2 : decide ((0 : Int) < (lx : Int)) = true := decide_eq_true (by omega)
    by_cases y0 : ly = 0
    · subst y0
      have E : Hid (true = r) := Lib.hid (by rw [G.out]; simp; omega)
      clear G L1 L2
      go_wp2_with fail
      go_ret
      exact ⟨ret_bool E.out, nq, rfl⟩
    · have t : ((ly : Int) == 0) = false := by rw [beq_eq_false_iff_ne]; omega
      cases u with
      | true =>
        have E : Hid (true = r) := Lib.hid (by rw [G.out, if_neg (by omega)]; rfl)
        clear G L2 x0 y0
        go_wp2_with (go_at_call 23; refine (L1.out _).mono ?_; rintro e w' ⟨rfl, rfl⟩)
        go_ret
        exact ⟨ret_bool E.out, nq, rfl⟩
      | false =>
        cases v with
        | true =>
          have E : Hid (false = r) := Lib.hid (by rw [G.out, if_neg (by omega)]; rfl)
          clear G x0 y0
          go_wp2_with fail
          refine (L1.out _).mono ?_
          rintro e w' ⟨rfl, rfl⟩
          go_wp2_with fail
          refine (L2.out _).mono ?_
          rintro e w' ⟨rfl, rfl⟩
          go_wp2_with fail
          go_ret
          exact ⟨ret_bool E.out, nq, rfl⟩
        | false =>
          have E : Hid (decide (a < b) = r) := Lib.hid (by rw [G.out, if_neg (by omega)]; simp)
          clear G x0 y0
          go_wp2_with fail
          refine (L1.out _).mono ?_
          rintro e w' ⟨rfl, rfl⟩
          go_wp2_with fail
          refine (L2.out _).mono ?_
          rintro e w' ⟨rfl, rfl⟩
          go_wp2_with fail
          go_ret
          exact ⟨ret_bool E.out, nq, rfl⟩

set_option maxHeartbeats 2000000 in
set_option maxRecDepth 100000 in
theorem rbeats_any (ha : a < K.length) (hb : b < K.length) (h : RecsAt w p K) :
    Calls Try.prog 45 #[.slice p K.length c, .int .i64 a, .int .i64 b] w fun e w' => e = .returned (.bool (bt K a b)) ∧ ∃ n, w' = w.drewN n := by
  obtain ⟨A, q, d, rfl, _, ca, hra, hal⟩ := h a ha
  obtain ⟨A2, q2, d2, e2, _, cb, hrb, hbl⟩ := h b hb
  cases e2
  obtain ⟨x, hx⟩ : ∃ x, x = K.getD a [] := ⟨_, rfl⟩
  obtain ⟨y, hy⟩ : ∃ y, y = K.getD b [] := ⟨_, rfl⟩
  obtain ⟨n, hn⟩ : ∃ n, n = K.length := ⟨_, rfl⟩
  rw [← hx] at ca hra hal
  rw [← hy] at cb hrb hbl
  have F0 : btk x y a b = bt K a b := by unfold bt kat; rw [hx, hy]
  rw [← F0]
  rw [← hn] at ha hb ⊢
  have L1 : Hid (∀ k, Calls Try.prog 34 #[.slice q x.length d, .slice q2 y.length d2] (w.drewN k) fun e w' => e = .returned (.bool (lexL x y)) ∧ ∃ j, w' = w.drewN j) :=
    Lib.hid fun k => quiet_at (rless_any x y q q2 d d2 _ (hra.drewN k) (hrb.drewN k) hal hbl)
  have L2 : Hid (∀ k, Calls Try.prog 34 #[.slice q2 y.length d2, .slice q x.length d] (w.drewN k) fun e w' => e = .returned (.bool (lexL y x)) ∧ ∃ j, w' = w.drewN j) :=
    Lib.hid fun k => quiet_at (rless_any y x q2 q d2 d _ (hrb.drewN k) (hra.drewN k) hbl hal)
  have AS := Lib.hid (lexL_asym x y)
  clear h hra hrb hx hy hn F0
  have G : Hid (btk x y a b = if x.length = 0 ∨ y.length = 0 then decide (0 < x.length) || (decide (y.length = 0) && decide (a < b)) else lexL x y || (!lexL y x && decide (a < b))) := Lib.hid rfl
  obtain ⟨r, hr⟩ : ∃ r, r = btk x y a b := ⟨_, rfl⟩
  rw [← hr] at G ⊢
  clear hr
  obtain ⟨lx, hlx⟩ : ∃ lx, lx = x.length := ⟨_, rfl⟩
  obtain ⟨ly, hly⟩ : ∃ ly, ly = y.length := ⟨_, rfl⟩
  rw [← hlx, ← hly] at L1 L2 G
  rw [← hlx] at ca hal; rw [← hly] at cb hbl
  obtain ⟨u, hu⟩ : ∃ u, u = lexL x y := ⟨_, rfl⟩
  obtain ⟨v, hv⟩ : ∃ v, v = lexL y x := ⟨_, rfl⟩
  rw [← hu] at L1 G AS; rw [← hv] at L2 G AS
  clear hlx hly hu hv
  have a0 : (0 : Int) ≤ (a : Int) := by omega
  have a1 : (a : Int) < (n : Int) := by omega
  have b0 : (0 : Int) ≤ (b : Int) := by omega
  have b1 : (b : Int) < (n : Int) := by omega
  clear ha hb
  go_enter Try.func45, Try.ntmps45
  go_wp2_with fail
  go_quiet (fail)
  by_cases x0 : lx = 0
  · subst x0
    by_cases y0 : ly = 0
    · subst y0
      have E : Hid (decide (a < b) = r) := Lib.hid (by rw [G.out]; simp)
      clear G L1 L2
      go_wp2_with fail
      go_ret
      exact ⟨ret_bool E.out, nq, rfl⟩
    · have t : ((ly : Int) == 0) = false := by rw [beq_eq_false_iff_ne]; omega
      have E : Hid (false = r) := Lib.hid (by rw [G.out]; simp [y0])
      clear G L1 L2
      go_wp2_with fail
      go_ret
      exact ⟨ret_bool E.out, nq, rfl⟩
  · have t1 : ((lx : Int) == 0) = false := by rw [beq_eq_false_iff_ne]; omega
    have t2 : decide ((0 : Int) < (lx : Int)) = true := decide_eq_true (by omega)
    by_cases y0 : ly = 0
    · subst y0
      have E : Hid (true = r) := Lib.hid (by rw [G.out]; simp; omega)
      clear G L1 L2
      go_wp2_with fail
      go_ret
      exact ⟨ret_bool E.out, nq, rfl⟩
    · have t : ((ly : Int) == 0) = false := by rw [beq_eq_false_iff_ne]; omega
      cases u with
      | true =>
        have E : Hid (true = r) := Lib.hid (by rw [G.out, if_neg (by omega)]; rfl)
        clear G L2 x0 y0
        go_wp2_with fail
        refine (L1.out _).mono ?_
        rintro e w' ⟨rfl, j, rfl⟩
        go_wp2_with fail
        refine (L1.out _).mono ?_
        rintro e w' ⟨rfl, j, rfl⟩
        go_wp2_with fail
        go_ret
        exact ⟨ret_bool E.out, _, rfl⟩
      | false =>
        cases v with
        | true =>
          have E : Hid (false = r) := Lib.hid (by rw [G.out, if_neg (by omega)]; rfl)
          clear G x0 y0
          go_wp2_with fail
          refine (L1.out _).mono ?_
          rintro e w' ⟨rfl, j, rfl⟩
          go_wp2_with fail
          refine (L2.out _).mono ?_
          rintro e w' ⟨rfl, j, rfl⟩
          go_wp2_with fail
          refine (L1.out _).mono ?_
          rintro e w' ⟨rfl, j, rfl⟩
          go_wp2_with fail
          go_ret
          exact ⟨ret_bool E.out, _, rfl⟩
        | false =>
          have E : Hid (decide (a < b) = r) := Lib.hid (by rw [G.out, if_neg (by omega)]; simp)
          clear G x0 y0
          go_wp2_with fail
          refine (L1.out _).mono ?_
          rintro e w' ⟨rfl, j, rfl⟩
          go_wp2_with fail
          refine (L2.out _).mono ?_
          rintro e w' ⟨rfl, j, rfl⟩
          go_wp2_with fail
          go_ret
          exact ⟨ret_bool E.out, _, rfl⟩
end

/-- slices.Equal over numbers -/
theorem ints_step (M N : List Int) (k : Nat) (h1 : k < M.length) (h2 : k < N.length) (hk : M.take k = N.take k) : (M.getD k 0 = N.getD k 0 ↔ M.take (k + 1) = N.take (k + 1)) := by
  have e1 := List.take_succ_eq_append_getElem h1
  have e2 := List.take_succ_eq_append_getElem h2
  have a1 : M.getD k 0 = M[k] := by simp [List.getD_eq_getElem?_getD, List.getElem?_eq_getElem h1]
  have a2 : N.getD k 0 = N[k] := by simp [List.getD_eq_getElem?_getD, List.getElem?_eq_getElem h2]
  rw [e1, e2, a1, a2, hk]
  constructor
  · intro h; rw [h]
  · intro h
    have := List.append_cancel_left h
    simpa using this
set_option maxHeartbeats 2000000 in
set_option maxRecDepth 100000 in
theorem equal_any (M N : List Int) (p q : Option Addr) (c d : Nat) (w : World) (hp : Rd w p (zs M)) (hq : Rd w q (zs N)) (hx : M.length ≤ 9223372036854775807) (hy : N.length ≤ 9223372036854775807) :
    Calls Try.prog 37 #[.slice p M.length c, .slice q N.length d] w fun e w' => e = .returned (.bool (decide (M = N))) ∧ ∃ n, w' = w.drewN n := by
  have HP := Lib.hid hp; have HQ := Lib.hid hq
  clear hp hq
  obtain ⟨n, hn⟩ : ∃ n, n = M.length := ⟨_, rfl⟩
  obtain ⟨m, hm⟩ : ∃ m, m = N.length := ⟨_, rfl⟩
  rw [← hn, ← hm]
  rw [← hn] at hx; rw [← hm] at hy
  by_cases hnm : n = m
  case neg =>
    have F : Hid (false = decide (M = N)) := Lib.hid (decide_eq_false (fun h => hnm (by rw [hn, hm, h]))).symm
    have t : ((n : Int) != (m : Int)) = true := by rw [bne_iff_ne]; omega
    clear hn hm hnm
    go_enter Try.func37, Try.ntmps37
    go_wp2_with fail
    go_ret
    exact ⟨ret_bool F.out, 0, rfl⟩
  subst hnm
  have HN := Lib.hid hn; have HM := Lib.hid hm
  clear hn hm
  go_enter Try.func37, Try.ntmps37
  go_wp2_with fail
  go_loopw [5, 13] (fun _ i wr => ∃ k j : Nat, k ≤ n ∧ i = .int .i64 k ∧ M.take k = N.take k ∧ wr = w.drewN j) (fun _ i _ => n - (intOf i).toNat)
  case atStart => exact ⟨0, 0, by omega, rfl, rfl, rfl⟩
  case round =>
    obtain ⟨k, j, hk, rfl, hl, rfl⟩ := hrel
    by_cases hlt : k < n
    · have hst := ints_step M N k (by rw [← HN.out]; exact hlt) (by rw [← HM.out]; exact hlt) hl
      obtain ⟨a, rfl, ca⟩ := rd_z HP.out k (by rw [← HN.out]; exact hlt)
      obtain ⟨b, rfl, cb⟩ := rd_z HQ.out k (by rw [← HM.out]; exact hlt)
      obtain ⟨X, hX⟩ : ∃ X, X = M.getD k 0 := ⟨_, rfl⟩
      obtain ⟨Y, hY⟩ : ∃ Y, Y = N.getD k 0 := ⟨_, rfl⟩
      rw [← hX] at hst ca
      rw [← hY] at hst cb
      have k0 : (0 : Int) ≤ (k : Int) := by omega
      have k1 : (k : Int) < (n : Int) := by omega
      by_cases he : X = Y
      · have HL := Lib.hid (hst.1 he)
        have t : (X != Y) = false := by rw [bne_eq_false_iff_eq]; exact he
        clear hl hX hY hst he
        go_wp2_with fail
        go_quiet (fail)
        go_wp2_with fail
        go_roundw
        case rel => exact ⟨k + 1, _, by omega, by go_num, HL.out, rfl⟩
        case measure => simp [intOf]; omega
      · have F : Hid (false = decide (M = N)) := Lib.hid (decide_eq_false (fun h => he (hst.2 (by rw [h])))).symm
        have t : (X != Y) = true := by rw [bne_iff_ne]; exact he
        clear hl hX hY hst he
        go_wp2_with fail
        go_quiet (fail)
        go_wp2_with fail
        go_ret
        exact ⟨ret_bool F.out, by exact drewN2 _ _ _⟩
    · obtain rfl : k = n := by omega
      have F : Hid (true = decide (M = N)) := Lib.hid (decide_eq_true (by
        rw [List.take_of_length_le (by rw [← HN.out]; exact Nat.le_refl _), List.take_of_length_le (by rw [← HM.out]; exact Nat.le_refl _)] at hl; exact hl)).symm
      clear hl
      go_wp2_with fail
      go_ret
      exact ⟨ret_bool F.out, j, rfl⟩
end Go.Proofs.Ythkgdjclgphodaa.Ls
