/- The document's Lengths: errors, few leaves. -/
import Derived.Test.YtbegngilbngnoaaPkE
import Derived.Test.YtbegngilbngnoaaPkB
namespace Go.Proofs.Ytbegngilbngnoaa.Pk
open Go.RowKit Go.Lib Rw Ls Od _root_.Go.Proofs.Ytbegngilbngnoaa.Nm

def okL (ws : List Nat) (lim : Int) : Bool := okW ws && decide (1 ≤ lim) && decide (lim ≤ 15)
def lenR (ws : List Nat) (lim : Int) : List Nat × Int := if okL ws lim = true then (if 2 ^ lim.toNat < (sy ws).length then ([], 8) else (lens ws lim.toNat, 0)) else ([], 1)
/-- ints in memory, and why none -/
def IE (W : World) (o : List Nat × Int) (e : Ending) (w' : World) : Prop := ∃ (q : Option Addr) (c : Nat), e = .returned (.tuple #[.slice q o.1.length c, .int .i64 o.2]) ∧ o.1.length ≤ c ∧ Rd w' q (zs (up o.1)) ∧ Below W.heap.size W w'
theorem ie_mk {W w' : World} {o : List Nat × Int} {L : List Nat} {r : Int} {n : Nat} {q : Option Addr} {c : Nat} (ho : o = (L, r)) (hL : L.length = n) (hc : n ≤ c) (hr : Rd w' q (zs (up L))) (hb : Below W.heap.size W w') : IE W o (.returned (.tuple #[.slice q n c, .int .i64 r])) w' := by
  subst ho; subst hL; exact ⟨q, c, rfl, hc, hr, hb⟩
theorem sy_len (ws : List Nat) : (sy ws).length ≤ ws.length := by
  unfold sy
  have := List.length_filter_le (fun i => decide (0 < ws.getD i 0)) (List.range ws.length)
  rwa [List.length_range] at this
theorem sy_lt {ws : List Nat} {i : Nat} (h : i ∈ sy ws) : i < ws.length ∧ 0 < ws.getD i 0 := by
  unfold sy at h
  rw [List.mem_filter, List.mem_range, decide_eq_true_eq] at h
  exact h
theorem lv_len (ws : List Nat) : (lv ws).length = (sy ws).length := (lv_perm ws).length_eq
theorem lens_few {ws : List Nat} {k : Nat} (h : (sy ws).length < 2) : lens ws k = (List.range ws.length).map fun i => if i ∈ sy ws then 1 else 0 := by
  unfold lens
  apply List.map_congr_left
  intro i _
  rw [if_pos (by rw [lv_len]; exact h)]
  have : i ∈ lv ws ↔ i ∈ sy ws := (lv_perm ws).mem_iff
  by_cases hi : i ∈ sy ws
  · rw [if_pos hi, if_pos (this.2 hi)]
  · rw [if_neg hi, if_neg (fun h => hi (this.1 h))]
theorem few_none {ws : List Nat} {k : Nat} (h : (sy ws).length = 0) : lens ws k = List.replicate ws.length 0 := by
  rw [lens_few (by omega), List.eq_nil_of_length_eq_zero h]
  apply List.ext_getElem
  · simp
  · intro i h1 h2; simp
theorem few_one {ws : List Nat} {k x : Nat} (h : sy ws = [x]) : lens ws k = (List.replicate ws.length 0).set x 1 := by
  rw [lens_few (by rw [h]; simp), h]
  apply List.ext_getElem
  · simp
  · intro i h1 h2
    simp only [List.getElem_map, List.getElem_range, List.mem_singleton, List.getElem_set, List.getElem_replicate]
    by_cases e : i = x
    · rw [if_pos e, if_pos e.symm]
    · rw [if_neg e, if_neg (fun h => e h.symm)]
set_option maxHeartbeats 4000000 in
set_option maxRecDepth 100000 in
theorem rlengths_bad (ws : List Nat) (lim : Int) (p : Option Addr) (c : Nat) (w : World) (hp : Rd w p (nums ws)) (hl : ws.length ≤ 17592186044416) (hb : okL ws lim = false) :
    Calls Try.prog 9 #[.slice p ws.length c, .int .i64 lim] w (IE w (lenR ws lim)) := by
  have F : Hid (lenR ws lim = ([], 1)) := Lib.hid (by unfold lenR; rw [hb]; rfl)
  have CR := rright_any ws p c w hp hl
  have hor : okW ws = false ∨ (okW ws = true ∧ lim < 1) ∨ (okW ws = true ∧ ¬ lim < 1 ∧ 15 < lim) := by
    unfold okL at hb
    cases e : okW ws with
    | false => exact .inl rfl
    | true =>
      rw [e] at hb
      simp only [Bool.true_and, Bool.and_eq_false_iff, decide_eq_false_iff_not] at hb
      right
      rcases hb with h | h
      · exact .inl ⟨rfl, by omega⟩
      · by_cases h2 : lim < 1
        · exact .inl ⟨rfl, h2⟩
        · exact .inr ⟨rfl, h2, by omega⟩
  clear hb hl
  rcases hor with h | ⟨h, h2⟩ | ⟨h, h2, h3⟩
  · rw [h] at CR
    have C := Lib.hid CR
    clear h CR hp
    go_enter Try.func9, Try.ntmps9
    go_wp2_with fail
    refine C.out.mono ?_
    rintro e w1 ⟨rfl, rfl⟩
    go_wp2_with fail
    refine bodyPost_ret (v := .tuple #[.slice none 0 0, .int .i64 1]) (by simp [results, Try.results9, go_sem]) rfl ?_
    exact ie_mk F.out rfl (Nat.le_refl _) (Rd.nil _ _) (Below.refl _ _)
  · rw [h] at CR
    have C := Lib.hid CR
    have e1 : decide (lim < 1) = true := decide_eq_true h2
    clear h CR hp h2
    go_enter Try.func9, Try.ntmps9
    go_wp2_with fail
    refine C.out.mono ?_
    rintro e w1 ⟨rfl, rfl⟩
    go_wp2_with fail
    refine bodyPost_ret (v := .tuple #[.slice none 0 0, .int .i64 1]) (by simp [results, Try.results9, go_sem]) rfl ?_
    exact ie_mk F.out rfl (Nat.le_refl _) (Rd.nil _ _) (Below.refl _ _)
  · rw [h] at CR
    have C := Lib.hid CR
    have e1 : decide (lim < 1) = false := decide_eq_false h2
    have e2 : decide (15 < lim) = true := decide_eq_true h3
    clear h CR hp h2 h3
    go_enter Try.func9, Try.ntmps9
    go_wp2_with fail
    refine C.out.mono ?_
    rintro e w1 ⟨rfl, rfl⟩
    go_wp2_with fail
    refine bodyPost_ret (v := .tuple #[.slice none 0 0, .int .i64 1]) (by simp [results, Try.results9, go_sem]) rfl ?_
    exact ie_mk F.out rfl (Nat.le_refl _) (Rd.nil _ _) (Below.refl _ _)
set_option maxHeartbeats 8000000 in
set_option maxRecDepth 100000 in
theorem rlengths_few (ws : List Nat) (lm : Nat) (p : Option Addr) (c : Nat) (w : World) (hp : Rd w p (nums ws)) (hb : okL ws (lm : Int) = true) (hf : 2 ^ lm < (sy ws).length ∨ (sy ws).length < 2) :
    Calls Try.prog 9 #[.slice p ws.length c, .int .i64 (lm : Int)] w (IE w (lenR ws (lm : Int))) := by
  obtain ⟨i0, hi0, hz0, hz1, hz2⟩ := info_parts info_int
  have hb2 := hb
  unfold okL at hb2
  simp only [Bool.and_eq_true, decide_eq_true_eq] at hb2
  obtain ⟨⟨ho, g1⟩, g2⟩ := hb2
  have hl1 : 1 ≤ lm ∧ lm ≤ 15 := by omega
  have hl5 := okW_len ho
  have CR0 := rright_any ws p c w hp (by omega)
  rw [ho] at CR0
  replace CR0 := CR0.mono (R' := fun e w' => e = .returned (.bool true) ∧ w = w') fun e w' ⟨h1, h2⟩ => ⟨h1, h2.symm⟩
  have CS0 := rsymbols_any ws p c w hp (by omega)
  have hsl := sy_len ws
  have hpw : 2 ≤ 2 ^ lm := by
    have : 2 ^ 1 ≤ 2 ^ lm := Nat.pow_le_pow_right (by omega) hl1.1
    simpa using this
  obtain ⟨S, hS⟩ : ∃ S, S = sy ws := ⟨_, rfl⟩
  obtain ⟨n, hn⟩ : ∃ n, n = S.length := ⟨_, rfl⟩
  obtain ⟨m, hm⟩ : ∃ m, m = ws.length := ⟨_, rfl⟩
  obtain ⟨x0, hx0⟩ : ∃ x0 : Nat, x0 = 2 ^ lm := ⟨_, rfl⟩
  have sh0 := shl_i64 lm hl1.2
  rw [← hx0] at sh0 hf hpw
  rw [← hS] at CS0 hsl hf
  unfold IsP at CS0
  rw [← hn] at CS0 hsl hf
  rw [← hm] at CR0 CS0 hl5 hsl ⊢
  have CR := Lib.hid CR0; have CS := Lib.hid CS0; have P := Lib.hid hp
  have F : Hid (lenR ws (lm : Int) = if x0 < n then ([], 8) else (lens ws lm, 0)) := Lib.hid (by
    unfold lenR
    rw [if_pos hb, Int.toNat_natCast, ← hx0, ← hS, ← hn])
  have HS := Lib.hid hS; have HN := Lib.hid hn; have HM := Lib.hid hm
  have e1 : decide ((lm : Int) < 1) = false := decide_eq_false (by omega)
  have e2 : decide ((15 : Int) < (lm : Int)) = false := decide_eq_false (by omega)
  have e3 : decide (15 < lm) = false := decide_eq_false (by omega)
  have e4 : decide (lm < 1) = false := decide_eq_false (by omega)
  have w0 : IntKind.u64.wrap ((lm : Int)) = (lm : Int) := IntWalk.u64_in _ (by omega)
  clear hp hb ho g1 g2 CR0 CS0 hS hn hm hx0
  go_enter Try.func9, Try.ntmps9
  go_wp2_with fail
  refine CR.out.mono ?_
  rintro e w1 ⟨rfl, rfl⟩
  go_wp2_with fail
  refine CS.out.mono ?_
  rintro e w1 ⟨q, d, rfl, hd, hq, hnq, hb1⟩
  have Q := Lib.hid hq; have B1 := Lib.hid hb1
  clear hq hb1 hnq CR CS
  by_cases hbig : x0 < n
  · have d1 : decide ((x0 : Int) < (n : Int)) = true := decide_eq_true (by omega)
    have d2 : decide (x0 < n) = true := decide_eq_true hbig
    have F2 : Hid (lenR ws (lm : Int) = ([], 8)) := Lib.hid (by rw [F.out, if_pos hbig])
    clear hbig hf
    go_wp2_with fail
    refine bodyPost_ret (v := .tuple #[.slice none 0 0, .int .i64 8]) (by simp [results, Try.results9, go_sem]) rfl ?_
    exact ie_mk F2.out rfl (Nat.le_refl _) (Rd.nil _ _) B1.out
  · have d1 : decide ((x0 : Int) < (n : Int)) = false := decide_eq_false (by omega)
    have d2 : decide (x0 < n) = false := decide_eq_false hbig
    have F2 : Hid (lenR ws (lm : Int) = (lens ws lm, 0)) := Lib.hid (by rw [F.out, if_neg hbig])
    have hn2 : n < 2 := by omega
    clear hbig hf F
    go_wp2_with (at_make; refine wpList_make_full _ rfl _ _ 23 rfl w1.heap.size 3 i0 (.int .i64 0) 1 Try.underlying23 hi0 hz0 hz1 .i64 .i64 (m : Int) (m : Int) m rfl rfl rfl rfl ?c1 ?c2 ?c3 ?_)
    case c1 => rw [hz2]; omega
    case c2 => unfold maxLen; omega
    case c3 => simp
    intro w2 hown2 hgr2
    have b2 : Below w1.heap.size w1 w2 := (Below.refl _ w1).grown hgr2 (Nat.le_refl _) (by simp)
    rw [toList_madeCells_one] at hown2
    obtain ⟨og, hog⟩ : ∃ og, og = w1.heap.size := ⟨_, rfl⟩
    have A0 : Hid (Arr w2 og 3 og m (zs (up (List.replicate m 0)))) := Lib.hid (by
      rw [hog]
      have : zs (up (List.replicate m 0)) = List.replicate m (Value.int .i64 0) := by simp [zs, up]
      rw [this]; exact hown2)
    have B2 : Hid (Below w.heap.size w w2) := Lib.hid (B1.out.trans (b2.mono B1.out.size))
    have Q2 : Hid (Rd w2 q (zs (up S))) := Lib.hid (Q.out.below b2)
    have HOG : Hid (w.heap.size ≤ og) := Lib.hid (by rw [hog]; exact B1.out.size)
    rw [← hog]
    clear hown2 hgr2 b2 hog Q B1 sh0
    rcases Nat.lt_or_ge 0 n with h1 | h0
    · obtain rfl : n = 1 := by omega
      obtain ⟨x, hx⟩ : ∃ x, S = [x] := by
        have := HN.out
        match S, this with
        | [x], _ => exact ⟨x, rfl⟩
      have HX := Lib.hid hx
      have hxm : x < m := by rw [HM.out]; exact (sy_lt (ws := ws) (i := x) (by rw [← HS.out, hx]; simp)).1
      obtain ⟨a, rfl, cx⟩ := rd_z Q2.out 0 (by rw [up_length, hx]; simp)
      rw [up_getD _ _ (by rw [hx]; simp), hx] at cx
      replace cx : w2.cell? (a.add 0) = some (.int .i64 (x : Nat)) := cx
      have x0' : (0 : Int) ≤ (x : Int) := by omega
      have x1' : (x : Int) < (m : Int) := by omega
      have cg := A0.out.cell hxm
      have fg := A0.out.free x
      generalize (zs (up (List.replicate m 0))).getD x (.bool false) = ov at cg
      have E1 : Hid (Rd (w2.setCell ⟨og, x, none⟩ (.int .i64 1)) (some ⟨og, 0, none⟩) (zs (up (lens ws lm)))) := Lib.hid (by
        have h9 := A0.out.set x (.int .i64 (1 : Nat))
        rw [zs_up_set] at h9
        rw [few_one (k := lm) (by rw [← HS.out, HX.out]), ← HM.out]
        exact h9.rd)
      have E2 := Lib.hid (below_put B2.out (a := ⟨og, x, none⟩) (by show w.heap.size ≤ og; exact HOG.out) (.int .i64 1))
      have ea : a.add 0 = a := by simp [Addr.add]
      rw [ea] at cx
      clear hx h1 hn2
      go_wp2_with fail
      refine bodyPost_ret (v := .tuple #[.slice (some ⟨og, 0, none⟩) m m, .int .i64 0]) (by simp [results, Try.results9, go_sem]) rfl ?_
      exact ie_mk F2.out (by rw [lens_length, HM.out]) (Nat.le_refl _) E1.out E2.out
    · obtain rfl : n = 0 := by omega
      have E1 : Hid (Rd w2 (some ⟨og, 0, none⟩) (zs (up (lens ws lm)))) := Lib.hid (by
        rw [few_none (k := lm) (by rw [← HS.out, ← HN.out]), ← HM.out]
        exact A0.out.rd)
      clear h0 hn2
      go_wp2_with fail
      refine bodyPost_ret (v := .tuple #[.slice (some ⟨og, 0, none⟩) m m, .int .i64 0]) (by simp [results, Try.results9, go_sem]) rfl ?_
      exact ie_mk F2.out (by rw [lens_length, HM.out]) (Nat.le_refl _) E1.out B2.out
end Go.Proofs.Ytbegngilbngnoaa.Pk
