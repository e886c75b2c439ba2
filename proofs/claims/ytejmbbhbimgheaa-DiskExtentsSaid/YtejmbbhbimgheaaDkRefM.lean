/- The document's Find and used. The document's Named, and what its Check asks. What the document's Check asks, extent by extent; where a name is. No program in sight. -/
import Derived.Test.YtejmbbhbimgheaaDkModel
import Derived.Test.YtejmbbhbimgheaaDkThyC
namespace Go.Proofs.Ytejmbbhbimgheaa.Dk
open Go.RowKit Go.Op

/-- where a name is first: -1, if nowhere -/
def fndI (b : ByteArray) : List Ext → Nat → Int
  | [], _ => -1
  | x :: E, i => if x.1 = b then (i : Int) else fndI b E (i + 1)
def fnd (E : List Ext) (b : ByteArray) : Int := fndI b E 0
theorem fndI_drop (E : List Ext) (b : ByteArray) (k : Nat) (h : k < E.length) : fndI b (E.drop k) k = if (E.getD k default).1 = b then (k : Int) else fndI b (E.drop (k + 1)) (k + 1) := by
  rw [drop_ext E k h]
  rfl
set_option maxHeartbeats 4000000 in
set_option maxRecDepth 100000 in
theorem rFind_any (E : List Ext) (p : Option Addr) (n c : Nat) (b : ByteArray) (w : World) (hn : n = E.length) (h : ExtAt w p E) (hE : n ≤ 9223372036854775807) :
    Calls Try.prog 34 #[.slice p n c, .string b] w fun e w' => e = .returned (.int .i64 (fnd E b)) ∧ Below w.heap.size w w' := by
  have HE := Lib.hid h; have HN := Lib.hid hn
  clear h hn
  go_enter Try.func34, Try.ntmps34
  go_wp2_with fail
  go_loopw [5, 6, 9] (fun _ _ i wr => ∃ k : Nat, k ≤ n ∧ i = .int .i64 k ∧ fnd E b = fndI b (E.drop k) k ∧ Below w.heap.size w wr) (fun _ _ i _ => n - (intOf i).toNat)
  case atStart => exact ⟨0, by omega, rfl, rfl, Below.refl _ _⟩
  case round =>
    obtain ⟨k, hk, rfl, hf, hb⟩ := hrel
    by_cases hlt : k < n
    · have hkE : k < E.length := by rw [← HN.out]; exact hlt
      obtain ⟨g, o, rfl, hg, d0, d1, z1, z2⟩ := (HE.out.below hb) k hkE
      have hd := fndI_drop E b k hkE
      obtain ⟨x, hx⟩ : ∃ x, x = (E.getD k default).1 := ⟨_, rfl⟩
      obtain ⟨y, hy⟩ : ∃ y, y = (E.getD k default).2 := ⟨_, rfl⟩
      rw [← hx] at d0 hd; rw [← hy] at d1
      have m0 : (0 : Int) ≤ (k : Int) := by omega
      have m1 : (k : Int) < (n : Int) := by omega
      have HF := Lib.hid (hf.trans hd); have HB := Lib.hid (hb.trans ((Below.refl _ wr).alloc hb.size (.cells #[.string x, .string y] 58) |>.mono (Nat.le_refl _)))
      by_cases e : x = b
      · have t : (x.toList == b.toList) = true := by rw [e]; simp
        have F : Hid ((k : Int) = fnd E b) := Lib.hid (by rw [HF.out, if_pos e])
        clear hx hy hd hf hb e
        go_wp2_with fail
        go_ret
        exact ⟨ret_int F.out, HB.out⟩
      · have t : (x.toList == b.toList) = false := by rw [beq_eq_false_iff_ne]; exact fun hh => e (toList_inj hh)
        have F : Hid (fnd E b = fndI b (E.drop (k + 1)) (k + 1)) := Lib.hid (by rw [HF.out, if_neg e])
        clear hx hy hd hf hb e
        go_wp2_with fail
        go_roundw
        case rel => exact ⟨k + 1, by omega, by go_num, F.out, HB.out⟩
        case measure => simp [intOf]; omega
    · obtain rfl : n = k := by omega
      have F : Hid ((-1 : Int) = fnd E b) := Lib.hid (by rw [hf, HN.out, List.drop_length]; rfl)
      have HB := Lib.hid hb
      clear hf hb
      go_wp2_with fail
      go_ret
      exact ⟨ret_int F.out, HB.out⟩

set_option maxHeartbeats 4000000 in
set_option maxRecDepth 100000 in
theorem rUsed_any (E : List Ext) (p : Option Addr) (n c : Nat) (w : World) (hn : n = E.length) (h : ExtAt w p E) (hE : n ≤ 9223372036854775807) (hs : sumN E ≤ 4611686018427387904) :
    Calls Try.prog 35 #[.slice p n c] w fun e w' => e = .returned (.int .i64 (sumN E : Nat)) ∧ Below w.heap.size w w' := by
  have HE := Lib.hid h; have HN := Lib.hid hn
  have HT : Hid (∀ k, k ≤ E.length → sumN (E.take k) ≤ 4611686018427387904) := Lib.hid (fun k _ => by
    have : ∀ A B : List Ext, sumN (A ++ B) = sumN A + sumN B := by
      intro A
      induction A with
      | nil => intro B; simp [sumN]
      | cons x A ih => intro B; simp only [List.cons_append, sumN]; rw [ih]; omega
    have h2 := this (E.take k) (E.drop k)
    rw [List.take_append_drop] at h2
    omega)
  have HK : Hid (∀ k, k < E.length → sumN (E.take (k + 1)) = sumN (E.take k) + (E.getD k default).2.size / 64) := Lib.hid (fun k hk => by
    have : ∀ (A : List Ext) (x : Ext), sumN (A ++ [x]) = sumN A + x.2.size / 64 := by
      intro A x
      induction A with
      | nil => simp [sumN, many]
      | cons u A ih => simp only [List.cons_append, sumN]; rw [ih]; omega
    rw [List.take_succ_eq_append_getElem hk, this]
    simp [List.getD_eq_getElem?_getD, List.getElem?_eq_getElem hk])
  clear h hn hs
  go_enter Try.func35, Try.ntmps35
  go_wp2_with fail
  go_loopw [3, 5, 8] (fun sm _ i wr => ∃ k : Nat, k ≤ n ∧ i = .int .i64 k ∧ sm = .int .i64 (sumN (E.take k) : Nat) ∧ Below w.heap.size w wr) (fun _ _ i _ => n - (intOf i).toNat)
  case atStart => exact ⟨0, by omega, rfl, rfl, Below.refl _ _⟩
  case round =>
    obtain ⟨k, hk, rfl, rfl, hb⟩ := hrel
    by_cases hlt : k < n
    · have hkE : k < E.length := by rw [← HN.out]; exact hlt
      obtain ⟨g, o, rfl, hg, d0, d1, z1, z2⟩ := (HE.out.below hb) k hkE
      have h1 := HK.out k hkE
      have h2 := HT.out (k + 1) (by omega)
      obtain ⟨x, hx⟩ : ∃ x, x = (E.getD k default).1 := ⟨_, rfl⟩
      obtain ⟨y, hy⟩ : ∃ y, y = (E.getD k default).2 := ⟨_, rfl⟩
      rw [← hx] at d0; rw [← hy] at d1 h1 z2
      obtain ⟨s0, hs0⟩ : ∃ s0, s0 = sumN (E.take k) := ⟨_, rfl⟩
      rw [← hs0] at h1 ⊢
      obtain ⟨q, hq⟩ : ∃ q, q = y.size / 64 := ⟨_, rfl⟩
      rw [← hq] at h1
      have hdiv : (y.size : Int).tdiv 64 = (q : Int) := by rw [Int.tdiv_eq_ediv_of_nonneg (by omega), hq]; omega
      have hqb : (q : Int) ≤ 9223372036854775807 := by omega
      have hwq : IntKind.i64.wrap (q : Int) = (q : Int) := IntWalk.i64_in _ (by omega)
      have hws : IntKind.i64.wrap ((s0 : Int) + (q : Int)) = (s0 : Int) + (q : Int) := IntWalk.i64_in _ (by omega)
      have m0 : (0 : Int) ≤ (k : Int) := by omega
      have m1 : (k : Int) < (n : Int) := by omega
      have HB := Lib.hid (hb.trans ((Below.refl _ wr).alloc hb.size (.cells #[.string x, .string y] 58) |>.mono (Nat.le_refl _)))
      have H1 := Lib.hid h1
      clear hx hy hs0 hq h1 h2 hb
      go_wp2_with fail
      go_roundw
      case rel => exact ⟨k + 1, by omega, by go_num, by rw [H1.out]; simp, HB.out⟩
      case measure => simp [intOf]; omega
    · obtain rfl : n = k := by omega
      have F : Hid (((sumN (E.take n) : Nat) : Int) = (sumN E : Nat)) := Lib.hid (by rw [HN.out, List.take_length])
      have HB := Lib.hid hb
      clear hb
      go_wp2_with fail
      go_ret
      exact ⟨ret_int F.out, HB.out⟩
end Go.Proofs.Ytejmbbhbimgheaa.Dk
namespace Go.Proofs.Ytejmbbhbimgheaa.Dk
open Go.RowKit Go.Op

set_option maxRecDepth 100000 in
theorem rNamed_any (s : ByteArray) (w : World) (hs : s.size ≤ 140737488355328) : Calls Try.prog 33 #[.string s] w fun e w' => e = .returned (.bool (named s)) ∧ w = w' := by
  obtain ⟨n, hn⟩ : ∃ n, n = s.size := ⟨_, rfl⟩
  by_cases h0 : n = 0
  · have F : Hid (false = named s) := Lib.hid (by unfold named; rw [← hn, decide_eq_false (by omega)]; rfl)
    have t : s.toList = [] := by
      have h : s.toList.length = s.size := by rw [toList_data, ← Lib.size_eq]
      exact List.eq_nil_of_length_eq_zero (by omega)
    clear hn h0
    go_enter Try.func33, Try.ntmps33
    go_wp2_with fail
    go_ret
    exact ⟨ret_bool F.out, rfl⟩
  · have t : ¬ (s.toList = []) := by
      intro e
      have h : s.toList.length = s.size := by rw [toList_data, ← Lib.size_eq]
      rw [e] at h
      simp at h
      omega
    have t' : s.toList.isEmpty = false := by rw [List.isEmpty_eq_false_iff]; exact t
    by_cases h1 : n ≤ 16
    · have F : Hid (true = named s) := Lib.hid (by unfold named; rw [← hn, decide_eq_true (by omega), decide_eq_true h1]; rfl)
      have t1 : decide ((s.size : Int) ≤ 16) = true := decide_eq_true (by omega)
      clear hn h0 h1
      go_enter Try.func33, Try.ntmps33
      go_wp2_with fail
      go_ret
      exact ⟨ret_bool F.out, rfl⟩
    · have F : Hid (false = named s) := Lib.hid (by unfold named; rw [← hn, decide_eq_true (by omega), decide_eq_false h1]; rfl)
      have t1 : decide ((s.size : Int) ≤ 16) = false := decide_eq_false (by omega)
      clear hn h0 h1
      go_enter Try.func33, Try.ntmps33
      go_wp2_with fail
      go_ret
      exact ⟨ret_bool F.out, rfl⟩
/-- one extent is right, behind those that are -/
def okAt (z : Int) (E : List Ext) (k : Nat) : Bool :=
  (named (E.getD k default).1 && (decide (k = 0) || nlt (E.getD (k - 1) default).1 (E.getD k default).1)) && (decide (1 ≤ many (E.getD k default).2) && decide ((E.getD k default).2.size % 64 = 0)) && decide ((sumN (E.take (k + 1)) : Int) ≤ z)
/-- the last name of a list, or the empty one -/
def lastN (E : List Ext) : ByteArray := match E.getLast? with | some x => x.1 | none => ⟨#[]⟩
theorem exR_snoc : ∀ (E : List Ext) (a : ByteArray) (l : Int) (x : Ext), 0 ≤ l → (exR a l (E ++ [x]) = true ↔ exR a l E = true ∧ (named x.1 && nlt (match E.getLast? with | some u => u.1 | none => a) x.1) = true ∧ (decide (1 ≤ many x.2) && decide (x.2.size % 64 = 0)) = true ∧ (sumN E + many x.2 : Int) ≤ l)
  | [], a, l, x, hl => by
    simp only [List.nil_append, exR, sumN, List.getLast?_nil, Bool.and_eq_true, decide_eq_true_eq, and_true, true_and]
    constructor
    · rintro ⟨⟨h1, h2⟩, ⟨h3, h4⟩, h5⟩; exact ⟨⟨h1, h2⟩, ⟨h3, h5⟩, by omega⟩
    · rintro ⟨⟨h1, h2⟩, ⟨h3, h5⟩, h4⟩; exact ⟨⟨h1, h2⟩, ⟨h3, by omega⟩, h5⟩
  | y :: E, a, l, x, hl => by
    have hg : (match (y :: E).getLast? with | some u => u.1 | none => a) = (match E.getLast? with | some u => u.1 | none => y.1) := by
      cases E with
      | nil => rfl
      | cons v E =>
        rw [List.getLast?_cons_cons]
        cases hg : (v :: E).getLast? with
        | none => simp at hg
        | some u => rfl
    rw [hg]
    simp only [List.cons_append, exR, sumN, Bool.and_eq_true, decide_eq_true_eq]
    constructor
    · rintro ⟨h, h6⟩
      obtain ⟨g1, g2, g3, g4⟩ := (exR_snoc E y.1 (l - many y.2) x (by omega)).1 h6
      simp only [Bool.and_eq_true, decide_eq_true_eq] at g2 g3
      exact ⟨⟨h, g1⟩, g2, g3, by omega⟩
    · rintro ⟨⟨h, g1⟩, g2, g3, g4⟩
      exact ⟨h, (exR_snoc E y.1 (l - many y.2) x (by omega)).2 ⟨g1, by simpa using g2, by simpa using g3, by omega⟩⟩
end Go.Proofs.Ytejmbbhbimgheaa.Dk
namespace Go.Proofs.Ytejmbbhbimgheaa.Dk
open Go.RowKit Go.Op

theorem exR_pre : ∀ {a : ByteArray} {l : Int} {A B : List Ext}, exR a l (A ++ B) = true → exR a l A = true
  | _, _, [], _, _ => rfl
  | a, l, x :: A, B, h => by
    rw [List.cons_append] at h
    simp only [exR, Bool.and_eq_true] at h ⊢
    exact ⟨h.1, exR_pre h.2⟩
theorem exR_len : ∀ {a : ByteArray} {l : Int} {E : List Ext}, 0 ≤ l → exR a l E = true → (E.length : Int) ≤ l
  | _, _, [], h, _ => by simpa using h
  | a, l, x :: E, h, k => by
    simp only [exR, Bool.and_eq_true, decide_eq_true_eq] at k
    have := exR_len (by omega) k.2
    rw [List.length_cons]
    omega
theorem take_last (E : List Ext) (k : Nat) (hk : k < E.length) : (E.take (k + 1)).getLast? = some (E.getD k default) := by
  rw [List.take_succ_eq_append_getElem hk, List.getLast?_append]
  simp [List.getD_eq_getElem?_getD, List.getElem?_eq_getElem hk]
theorem ex_step {z : Int} {E : List Ext} {k : Nat} (hz : 0 ≤ z) (hk : k < E.length) : exR ⟨#[]⟩ z (E.take (k + 1)) = true ↔ exR ⟨#[]⟩ z (E.take k) = true ∧ named (E.getD k default).1 = true ∧ (k = 0 ∨ nlt (E.getD (k - 1) default).1 (E.getD k default).1 = true) ∧ ((E.getD k default).2.size ≠ 0 ∧ (E.getD k default).2.size % 64 = 0) ∧ ((sumN (E.take (k + 1)) : Nat) : Int) ≤ z := by
  have e : E.take (k + 1) = E.take k ++ [E.getD k default] := by
    rw [List.take_succ_eq_append_getElem hk]
    simp [List.getD_eq_getElem?_getD, List.getElem?_eq_getElem hk]
  obtain ⟨x, hx⟩ : ∃ x, x = E.getD k default := ⟨_, rfl⟩
  rw [← hx] at e ⊢
  rw [e, exR_snoc _ _ _ _ hz, sumN_app]
  simp only [Bool.and_eq_true, decide_eq_true_eq, sumN, Nat.add_zero]
  have hm : 1 ≤ many x.2 ∧ x.2.size % 64 = 0 ↔ x.2.size ≠ 0 ∧ x.2.size % 64 = 0 := by unfold many; omega
  rw [hm]
  cases k with
  | zero =>
    simp only [List.take_zero, List.getLast?_nil, true_or, true_and]
    constructor
    · rintro ⟨h1, ⟨h2, _⟩, h3, h4⟩; exact ⟨h1, h2, h3, by omega⟩
    · rintro ⟨h1, h2, h3, h4⟩; exact ⟨h1, ⟨h2, nlt_empty h2⟩, h3, by omega⟩
  | succ j =>
    rw [take_last E j (by omega), Nat.add_sub_cancel]
    have : ¬ (j + 1 = 0) := by omega
    simp only [this, false_or]
    constructor
    · rintro ⟨h1, ⟨h2, h5⟩, h3, h4⟩; exact ⟨h1, h2, h5, h3, by omega⟩
    · rintro ⟨h1, h2, h5, h3, h4⟩; exact ⟨h1, ⟨h2, h5⟩, h3, by omega⟩
theorem ck_bad {D : Dsk} {k : Nat} (h : ¬ exR ⟨#[]⟩ D.size (D.E.take (k + 1)) = true) : (2 : Int) = ckE D := by
  have : ¬ chkB D.size D.E D.W D.fuse = true := fun hh => by
    obtain ⟨_, _, _, h4, _⟩ := chk_good hh
    rw [← List.take_append_drop (k + 1) D.E] at h4
    exact h (exR_pre h4)
  show 2 = chkE D.size D.E D.W D.fuse
  unfold chkE
  rw [if_neg this]
theorem ck_badW {D : Dsk} {k : Nat} (hk : k < D.W.length) (h : wrOk D.E (D.W.getD k default) = false) : (2 : Int) = ckE D := by
  have : ¬ chkB D.size D.E D.W D.fuse = true := fun hh => by
    obtain ⟨_, _, _, _, h5⟩ := chk_good hh
    have := List.all_eq_true.1 (wtR_all h5) (D.W.getD k default) (by simp [List.getD_eq_getElem?_getD, List.getElem?_eq_getElem hk])
    rw [h] at this; cases this
  show 2 = chkE D.size D.E D.W D.fuse
  unfold chkE
  rw [if_neg this]
theorem ck_badN {D : Dsk} (h : ¬ (0 ≤ D.size ∧ D.size ≤ 16384 ∧ D.E.length ≤ 16384 ∧ D.W.length ≤ 16384 ∧ -1 ≤ D.fuse)) : (2 : Int) = ckE D := by
  have : ¬ chkB D.size D.E D.W D.fuse = true := fun hh => by
    obtain ⟨h1, h2, h3, h4, h5⟩ := chk_good hh
    have := exR_len h1 h4
    have := wtR_length h5
    exact h ⟨h1, h2, by omega, by omega, h3⟩
  show 2 = chkE D.size D.E D.W D.fuse
  unfold chkE
  rw [if_neg this]
theorem ck_fine {D : Dsk} (h : 0 ≤ D.size ∧ D.size ≤ 16384 ∧ D.E.length ≤ 16384 ∧ D.W.length ≤ 16384 ∧ -1 ≤ D.fuse) (h4 : exR ⟨#[]⟩ D.size D.E = true) (h5 : ∀ k, k < D.W.length → wrOk D.E (D.W.getD k default) = true) : (0 : Int) = ckE D := by
  have h6 : D.W.all (wrOk D.E) = true := List.all_eq_true.2 fun x hx => by
    obtain ⟨i, hi, rfl⟩ := List.mem_iff_getElem.1 hx
    have := h5 i hi
    simpa [List.getD_eq_getElem?_getD, List.getElem?_eq_getElem hi] using this
  have : chkB D.size D.E D.W D.fuse = true := chk_of h.1 h.2.1 h.2.2.2.2 h4 (by unfold wtR; rw [h6, decide_eq_true h.2.2.2.1]; rfl)
  show 0 = chkE D.size D.E D.W D.fuse
  unfold chkE
  rw [if_pos this]
theorem fndI_spec (b : ByteArray) : ∀ (E : List Ext) (i : Nat), (fndI b E i = -1 ∧ ∀ x ∈ E, x.1 ≠ b) ∨ ∃ j, j < E.length ∧ fndI b E i = ((i + j : Nat) : Int) ∧ (E.getD j default).1 = b
  | [], i => .inl ⟨rfl, fun x h => absurd h (by simp)⟩
  | x :: E, i => by
    by_cases h : x.1 = b
    · exact .inr ⟨0, by simp, by simp [fndI, h], by simpa using h⟩
    · rcases fndI_spec b E (i + 1) with ⟨h1, h2⟩ | ⟨j, h1, h2, h3⟩
      · refine .inl ⟨by simp [fndI, h, h1], fun y hy => ?_⟩
        rcases List.mem_cons.1 hy with rfl | hy
        · exact h
        · exact h2 y hy
      · exact .inr ⟨j + 1, by simpa using h1, by simp only [fndI, if_neg h]; rw [h2]; omega, by simpa using h3⟩
theorem fnd_pos {E : List Ext} (hs : Sorted E) (b : ByteArray) : fnd E b = if isAt E b = true then ((pos E b : Nat) : Int) else -1 := by
  unfold fnd
  rcases fndI_spec b E 0 with ⟨h1, h2⟩ | ⟨j, h1, h2, h3⟩
  · rw [h1, if_neg]
    intro h
    obtain ⟨x, hx, hxb⟩ := (isAt_mem hs).1 h
    exact h2 x hx hxb
  · have hp := pos_self hs h1
    have e : E[j] = E.getD j default := (getD_getE E j h1).symm
    rw [h3] at hp
    have hi : isAt E b = true := (isAt_mem hs).2 ⟨E[j], List.getElem_mem _, by rw [e, h3]⟩
    rw [h2, if_pos hi, hp, Nat.zero_add]
end Go.Proofs.Ytejmbbhbimgheaa.Dk
