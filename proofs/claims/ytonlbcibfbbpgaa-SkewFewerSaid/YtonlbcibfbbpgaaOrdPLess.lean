/- less: what tells whether one end of a list is less than another one, by rows; the mathematics of Right. -/
import Derived.Test.YtonlbcibfbbpgaaOrdA
import Derived.Test.YtonlbcibfbbpgaaOrdM
namespace Go.Proofs.Ytonlbcibfbbpgaa.Od
open Go.RowKit Go.Lib Rw Ls _root_.Go.Proofs.Ytonlbcibfbbpgaa.Nm

def plB (l M : List Nat) (a b : Nat) : Bool := decide (l.getD a 0 < l.getD b 0) || (decide (l.getD a 0 = l.getD b 0) && decide (beh M 1 a < beh M 1 b))
theorem plB_iff (l M : List Nat) (a b : Nat) : plB l M a b = true ↔ (l.getD a 0 < l.getD b 0 ∨ l.getD a 0 = l.getD b 0 ∧ beh M 1 a < beh M 1 b) := by
  simp [plB]
section
variable {l P M : List Nat}
theorem pl_trans {a b c : Nat} (h : plB l M a b = true) (k : plB l M b c = true) : plB l M a c = true := by
  rw [plB_iff] at h k ⊢
  omega
theorem pl_far (h : ∀ i, 0 < i → i < P.length → plB l M (P.getD (i - 1) 0) (P.getD i 0) = true) (i : Nat) : ∀ d, i + d + 1 < P.length → plB l M (P.getD i 0) (P.getD (i + d + 1) 0) = true
  | 0, hd => h (i + 1) (by omega) hd
  | d + 1, hd => pl_trans (pl_far h i d (by omega)) (h (i + (d + 1) + 1) (by omega) hd)
theorem beh_one (M : List Nat) (e : Nat) : beh M 1 e = if e + 1 < M.length then ((M.getD (e + 1) 0 : Nat) : Int) else -1 := rfl
/-- places by rows, as they are told -/
theorem lt_of_rows (hl : M.length = l.length) (h : ∀ a b, a < l.length → b < l.length → M.getD a 0 < M.getD b 0 → plB l M a b = true) :
    ∀ d a b, l.length - a ≤ d → a < l.length → b < l.length → M.getD a 0 < M.getD b 0 → lt l a b = true
  | 0, a, b, hd, ha, _, _ => absurd ha (by omega)
  | d + 1, a, b, hd, ha, hb, hm => by
    rw [lt_step l a b ha hb, Bool.or_eq_true, Bool.and_eq_true, decide_eq_true_eq, decide_eq_true_eq]
    have h2 := h a b ha hb hm
    rw [plB_iff] at h2
    rcases h2 with h2 | ⟨h2, h3⟩
    · exact .inl h2
    · refine .inr ⟨h2, ?_⟩
      rw [beh_one, beh_one, hl] at h3
      by_cases h4 : b + 1 < l.length
      · rw [if_pos h4] at h3
        by_cases h5 : a + 1 < l.length
        · rw [if_pos h5] at h3
          exact lt_of_rows hl h d (a + 1) (b + 1) (by omega) h5 h4 (by omega)
        · have e : a + 1 = l.length := by omega
          unfold lt
          rw [e, List.drop_length, lexL_nil_left, List.length_drop]
          exact decide_eq_true (by omega)
      · rw [if_neg h4] at h3
        split at h3 <;> omega
theorem all_pl_iff (hp : P.Perm (List.range P.length)) (hl : l.length = P.length) (hM : M.length = P.length) (hinv : ∀ j, j < P.length → M.getD (P.getD j 0) 0 = j) :
    (∀ i, 0 < i → i < P.length → plB l M (P.getD (i - 1) 0) (P.getD i 0) = true) ↔ chain l P P.length = true := by
  have hat : ∀ a, a < P.length → ∃ j, j < P.length ∧ P.getD j 0 = a := fun a ha => by
    obtain ⟨j, hj, e⟩ := List.getElem_of_mem (hp.mem_iff.2 (List.mem_range.2 ha))
    exact ⟨j, hj, by rw [gd hj]; exact e⟩
  have hlt : ∀ j, j < P.length → P.getD j 0 < P.length := fun j hj => by
    rw [gd hj]; exact List.mem_range.1 (hp.mem_iff.1 (List.getElem_mem hj))
  constructor
  · intro h
    rw [chain_iff l P P.length (Nat.le_refl _)]
    intro i h0 hi
    have key := lt_of_rows (l := l) (M := M) (by omega) (fun a b ha hb hm => by
      obtain ⟨x, hx, rfl⟩ := hat a (by omega)
      obtain ⟨y, hy, rfl⟩ := hat b (by omega)
      rw [hinv x hx, hinv y hy] at hm
      have := pl_far h x (y - x - 1) (by omega)
      rwa [show x + (y - x - 1) + 1 = y by omega] at this)
    refine key _ _ _ (Nat.le_refl _) (by rw [hl]; exact hlt _ (by omega)) (by rw [hl]; exact hlt _ hi) ?_
    rw [hinv _ (by omega), hinv _ hi]
    omega
  · intro h i h0 hi
    have hup := up_of_chain h
    have hch := (chain_iff l P P.length (Nat.le_refl _)).1 h
    have hend : P = ends l := ends_one (by rw [hl]; exact hp) hup
    have hA := hlt (i - 1) (by omega)
    have hB := hlt i hi
    have h1 := hch i h0 hi
    generalize hqa : P.getD (i - 1) 0 = a at *
    generalize hqb : P.getD i 0 = b at *
    rw [lt_step l a b (by omega) (by omega), Bool.or_eq_true, Bool.and_eq_true, decide_eq_true_eq, decide_eq_true_eq] at h1
    rw [plB_iff]
    rcases h1 with h1 | ⟨h1, h2⟩
    · exact .inl h1
    · refine .inr ⟨h1, ?_⟩
      rw [beh_one, beh_one, hM]
      have hb1 : b + 1 < P.length := by
        rcases Nat.lt_or_ge (b + 1) P.length with h3 | h3
        · exact h3
        · have e : b + 1 = l.length := by omega
          rw [e, lt_no] at h2; cases h2
      rw [if_pos hb1]
      by_cases ha1 : a + 1 < P.length
      · rw [if_pos ha1]
        obtain ⟨x, hx, ex⟩ := hat (a + 1) ha1
        obtain ⟨y, hy, ey⟩ := hat (b + 1) hb1
        rw [← ex, ← ey, hinv x hx, hinv y hy]
        rw [← ex, ← ey] at h2
        rcases Nat.lt_or_ge x y with h3 | h3
        · omega
        · have hxy : x ≠ y := fun e => by subst e; rw [lt_same] at h2; cases h2
          have h4 := (List.pairwise_iff_getElem.1 hup) y x hy hx (by omega)
          rw [← gd hx, ← gd hy] at h4
          rw [lt_asym h4] at h2; cases h2
      · rw [if_neg ha1]; omega
end
/-- what less has captured -/
structure CapL (w : World) (b2 b3 b5 n c d : Nat) (p q : Option Addr) (l M : List Nat) : Prop where
  k2 : w.cell? ⟨b2, 0, none⟩ = some (.slice p n c)
  k3 : w.cell? ⟨b3, 0, none⟩ = some (.slice q n d)
  k5 : w.cell? ⟨b5, 0, none⟩ = some (.func (.func 60) #[] #[.pointer (some ⟨b3, 0, none⟩)])
  l2 : b2 < w.heap.size
  l3 : b3 < w.heap.size
  l5 : b5 < w.heap.size
  rd : Rd w p (nums l)
  rq : Rd w q (zs (up M))
  len : l.length = n
  lem : M.length = n
theorem CapL.below {w w' : World} {b2 b3 b5 n c d : Nat} {p q : Option Addr} {l M : List Nat} (h : CapL w b2 b3 b5 n c d p q l M) (hb : Below w.heap.size w w') : CapL w' b2 b3 b5 n c d p q l M :=
  ⟨(hb.cell (p := ⟨b2, 0, none⟩) h.l2).trans h.k2, (hb.cell (p := ⟨b3, 0, none⟩) h.l3).trans h.k3, (hb.cell (p := ⟨b5, 0, none⟩) h.l5).trans h.k5, Nat.lt_of_lt_of_le h.l2 hb.size, Nat.lt_of_lt_of_le h.l3 hb.size, Nat.lt_of_lt_of_le h.l5 hb.size, h.rd.below hb, h.rq.below hb, h.len, h.lem⟩
theorem lbehind_any (e b3 n d : Nat) (q : Option Addr) (M : List Nat) (w : World) (k3 : w.cell? ⟨b3, 0, none⟩ = some (.slice q n d)) (hq : Rd w q (zs (up M))) (hM : M.length = n) (hn : n ≤ 17592186044416) (he : e < n) :
    Calls Try.prog 60 #[.int .i64 e, .pointer (some ⟨b3, 0, none⟩)] w fun r w' => r = .returned (.int .i64 (beh M 1 e)) ∧ w = w' := by
  have HR := Lib.hid hq; have HL := Lib.hid hM
  clear hq hM
  by_cases hlt : e + 1 < n
  · have hz : (e : Int) + 1 < (n : Int) := by omega
    obtain ⟨a, rfl, cx⟩ := rd_z HR.out (e + 1) (by rw [up_length, HL.out]; exact hlt)
    have cx2 : w.cell? (a.add (e + 1)) = some (.int .i64 (beh M 1 e)) := by
      rw [cx, beh_one, HL.out, if_pos hlt]
      simp [up, List.getD_eq_getElem?_getD, HL.out, hlt]
    obtain ⟨r, hr⟩ : ∃ r, r = e + 1 := ⟨_, rfl⟩
    have ez : (e : Int) + 1 = (r : Int) := by omega
    rw [← hr] at cx2
    have rz : (r : Int) < (n : Int) := by omega
    generalize beh M 1 e = z at cx2 ⊢
    clear cx hr
    go_enter Try.func60, Try.ntmps60
    go_wp2
    go_ret
    exact ⟨rfl, rfl⟩
  · have hz : ¬ (e : Int) + 1 < (n : Int) := by omega
    have E : Hid (beh M 1 e = -1) := Lib.hid (by rw [beh_one, HL.out, if_neg hlt])
    rw [E.out]
    go_enter Try.func60, Try.ntmps60
    go_wp2
    go_ret
    exact ⟨rfl, rfl⟩
theorem lbehind_enters : ∀ args w, (callFunc 60 args).run Try.prog w = .ok (.enter 60 args) w := enters_of Try.func60 (by kernel_rfl) rfl
theorem isless_enters : ∀ args w, (callFunc 61 args).run Try.prog w = .ok (.enter 61 args) w := enters_of Try.func61 (by kernel_rfl) rfl
set_option maxHeartbeats 4000000 in
set_option maxRecDepth 100000 in
theorem isless_any (a b b2 b3 b5 n c d : Nat) (p q : Option Addr) (l M : List Nat) (w : World) (h : CapL w b2 b3 b5 n c d p q l M) (hn : n ≤ 17592186044416) (ha : a < n) (hb : b < n) :
    Calls Try.prog 61 #[.int .i64 a, .int .i64 b, .pointer (some ⟨b2, 0, none⟩), .pointer (some ⟨b5, 0, none⟩)] w fun e w' => e = .returned (.bool (plB l M a b)) ∧ ∃ z, w' = w.drewN z := by
  obtain ⟨A, rfl, hA⟩ := h.rd.form (by rw [nums_length, h.len]; omega)
  have c1 := h.rd.at (i := a) (by rw [nums_length, h.len]; exact ha)
  have c2 := h.rd.at (i := b) (by rw [nums_length, h.len]; exact hb)
  rw [nums_getD _ _ (by rw [h.len]; exact ha)] at c1
  rw [nums_getD _ _ (by rw [h.len]; exact hb)] at c2
  have hcc := Lib.hid (fun (e z : Nat) (he : e < n) => (lbehind_any e b3 n d q M (w.drewN z) h.k3 (h.rq.drewN z) h.lem hn he).mono fun _ _ ⟨h1, h2⟩ => (⟨h1, h2.symm⟩ : _ ∧ _ = _))
  have hpl := plB_iff l M a b
  obtain ⟨x, hx⟩ : ∃ x, x = ((l.getD a 0 : Nat) : Int) := ⟨_, rfl⟩
  obtain ⟨y, hy⟩ : ∃ y, y = ((l.getD b 0 : Nat) : Int) := ⟨_, rfl⟩
  have hpl2 : plB l M a b = true ↔ (x < y ∨ x = y ∧ beh M 1 a < beh M 1 b) := by rw [hpl, hx, hy]; omega
  rw [← hx] at c1
  rw [← hy] at c2
  have k2 := h.k2
  have k5 := h.k5
  generalize plB l M a b = r at hpl2 ⊢
  have HP := Lib.hid hpl2
  have az : (a : Int) < (n : Int) := by omega
  have bz : (b : Int) < (n : Int) := by omega
  have ea := lbehind_enters
  clear hpl hpl2 hx hy h
  by_cases h1 : x < y
  · have t1 : decide (x < y) = true := decide_eq_true h1
    have E : r = true := HP.out.2 (.inl h1)
    subst E
    go_enter Try.func61, Try.ntmps61
    go_wp2_with fail
    go_big_quiet (fail)
    go_wp2_with fail
    go_ret
    exact ⟨rfl, _, rfl⟩
  have t1 : decide (x < y) = false := decide_eq_false h1
  by_cases h2 : x = y
  · have t2 : (x == y) = true := by simpa using h2
    by_cases h3 : beh M 1 a < beh M 1 b
    · have t3 : decide (beh M 1 a < beh M 1 b) = true := decide_eq_true h3
      have E : r = true := HP.out.2 (.inr ⟨h2, h3⟩)
      subst E
      clear h1 h2
      go_enter Try.func61, Try.ntmps61
      go_wp2_with fail
      go_big_quiet (first | (go_at_fn 60; exact Calls.quiet_of_same (hcc.out _ _ (by omega))))
      go_wp2_with fail
      go_ret
      exact ⟨rfl, _, rfl⟩
    · have t3 : decide (beh M 1 a < beh M 1 b) = false := decide_eq_false h3
      have E : r = false := by
        cases hr : r with
        | false => rfl
        | true => rcases HP.out.1 hr with h | ⟨_, h⟩ <;> omega
      subst E
      clear h1 h2
      go_enter Try.func61, Try.ntmps61
      go_wp2_with fail
      go_big_quiet (first | (go_at_fn 60; exact Calls.quiet_of_same (hcc.out _ _ (by omega))))
      go_wp2_with fail
      go_ret
      exact ⟨rfl, _, rfl⟩
  · have t2 : (x == y) = false := by simpa using h2
    have E : r = false := by
      cases hr : r with
      | false => rfl
      | true => rcases HP.out.1 hr with h | ⟨h, _⟩ <;> omega
    subst E
    clear h1 h2
    go_enter Try.func61, Try.ntmps61
    go_wp2_with fail
    go_big_quiet (fail)
    go_wp2_with fail
    go_ret
    exact ⟨rfl, _, rfl⟩
theorem less_any (n c d : Nat) (p q : Option Addr) (l M : List Nat) (w : World) (hp : Rd w p (nums l)) (hq : Rd w q (zs (up M))) (hl : l.length = n) (hM : M.length = n) :
    Calls Try.prog 49 #[.slice p n c, .slice q n d] w fun e w' => e = .returned (.func (.func 61) #[] #[.pointer (some ⟨w.heap.size, 0, none⟩), .pointer (some ⟨w.heap.size + 2, 0, none⟩)]) ∧ CapL w' w.heap.size (w.heap.size + 1) (w.heap.size + 2) n c d p q l M ∧ Below w.heap.size w w' := by
  have HP := Lib.hid hp; have HQ := Lib.hid hq; have HL := Lib.hid hl; have HM := Lib.hid hM
  clear hp hq hl hM
  go_enter Try.func49, Try.ntmps49
  go_wp2
  go_ret
  refine ⟨rfl, ⟨?_, ?_, ?_, by simp <;> omega, by simp <;> omega, by simp <;> omega, ?_, ?_, HL.out, HM.out⟩, ?_⟩
  · go_simp
  · go_simp
  · go_simp
  · exact ((HP.out.alloc _).alloc _).alloc _
  · exact ((HQ.out.alloc _).alloc _).alloc _
  · exact (((Below.refl _ w).alloc (Nat.le_refl _) _).alloc (by simp) _).alloc (by simp <;> omega) _
end Go.Proofs.Ytonlbcibfbbpgaa.Od
