/- The walks of slices.Repeat of one number and of order.Inverse. The walk of order.Inverse. -/
import Derived.Test.YtonlbcibfbbpgaaOrdR
import Derived.Laws.CopyOwn
import Derived.Deep.RegionLaw
namespace Go.Proofs.Ytonlbcibfbbpgaa.Od
open Go.RowKit Go.Lib Rw Ls _root_.Go.Proofs.Ytonlbcibfbbpgaa.Nm

/-- a row whole in its block -/
def Whole (w : World) (g : Nat) (cs : List Value) : Prop := w.heap[g]? = some (.cells cs.toArray 3 (0, 0))
theorem rep_splice (n k m : Nat) (v z : Value) (h : k + m ≤ n) : splice (List.replicate k v ++ List.replicate (n - k) z) k (List.replicate m v) = List.replicate (k + m) v ++ List.replicate (n - (k + m)) z := by
  unfold splice
  rw [List.take_append_of_le_length (by simp), List.take_of_length_le (by simp), List.length_replicate, List.drop_append, List.drop_of_length_le (by simp), List.nil_append, List.length_replicate, List.drop_replicate, ← List.append_assoc, List.replicate_append_replicate]
  congr 2
  omega
theorem whole_at {w : World} {g n k : Nat} {v z : Value} (h : Whole w g (List.replicate k v ++ List.replicate (n - k) z)) {j : Nat} (hj : j < k) : w.cell? ⟨g, j, none⟩ = some v := by
  rw [cell_of_row _ g j _ _ (0, 0) h, List.getElem?_toArray, List.getElem?_append_left (by simpa using hj)]
  simp [hj]
theorem own_whole {w : World} {B g n : Nat} {xs : List Value} (h : w.ownsRow B 3 1 (.slice (some ⟨g, 0, none⟩) n n) n xs) : Whole w g xs := by
  rcases h.2 with ⟨h2, _⟩ | ⟨g', cap, cur, hv, _, hh, _, _, hs, hc⟩
  · cases h2
  · cases hv
    unfold Whole
    rw [hh]
    have : cur.toList = xs := by rw [← hc]; exact (List.take_of_length_le (by simpa using Nat.le_of_eq hs)).symm
    rw [← this]
/-- a new row of one number, so many times -/
def RepP (w : World) (n : Nat) (z : Int) (e : Ending) (w' : World) : Prop := ∃ g, e = .returned (.slice (some ⟨g, 0, none⟩) n n) ∧ Whole w' g (List.replicate n (.int .i64 z)) ∧ w.heap.size ≤ g ∧ Below w.heap.size w w'
set_option maxHeartbeats 4000000 in
set_option maxRecDepth 100000 in
theorem repeat_any (n : Nat) (z : Int) (A : Addr) (c : Nat) (w : World) (hn : n ≤ 17592186044416) (hc : w.cell? A = some (.int .i64 z)) (hA : A.block < w.heap.size) :
    Calls Try.prog 59 #[.slice (some A) 1 c, .int .i64 n] w (RepP w n z) := by
  obtain ⟨i0, hi0, hz0, hz1, hz2⟩ := info_parts info_int
  have hsz : (Try.prog.info? 3).map (·.size) = some 1 := by rw [hi0]; simp [hz1]
  have C1 : Hid (∀ w, Calls Try.prog 68 #[.int .u64 1, .int .u64 n] w fun e w' => e = .returned (.tuple #[.int .u64 0, .int .u64 n]) ∧ w' = w) := Lib.hid (fun w => by
    have h := Try.bits_Mul 1 n (by omega) (by omega) w
    rw [show 1 * n / 18446744073709551616 = 0 by omega, show 1 * n % 18446744073709551616 = n by omega] at h
    exact h)
  have HC := Lib.hid hc
  clear hc
  go_enter Try.func59, Try.ntmps59
  go_wp2_with fail
  ((with_reducible refine (C1.out _).mono ?_); rintro e w1 ⟨rfl, rfl⟩)
  clear C1
  go_wp2_with (at_make; refine wpList_make_full _ rfl _ _ 24 rfl w1.heap.size 3 i0 (.int .i64 0) 1 Try.underlying24 hi0 hz0 hz1 .i64 .i64 ↑n ↑n n rfl rfl rfl rfl ?c1 ?c2 ?c3 ?_)
  case c1 => rw [hz2]; omega
  case c2 => unfold maxLen; omega
  case c3 => simp
  intro w2 hown1 hgr1
  have b1 : Below w1.heap.size w1 w2 := (Below.refl _ w1).grown hgr1 (Nat.le_refl _) (by simp)
  rw [toList_madeCells_one] at hown1
  have HW : Hid (Whole w2 w1.heap.size (List.replicate 0 (.int .i64 z) ++ List.replicate (n - 0) (.int .i64 0))) := Lib.hid (by have := own_whole hown1; simpa using this)
  have B1 := Lib.hid b1
  have HC2 : Hid (w2.cell? A = some (.int .i64 z)) := Lib.hid ((b1.cell hA).trans HC.out)
  obtain ⟨g, hg⟩ : ∃ g, g = w1.heap.size := ⟨_, rfl⟩
  have HG := Lib.hid hg
  rw [← hg] at HW ⊢
  clear b1 hown1 hgr1 HC hg
  obtain ⟨m, hm⟩ : ∃ m, m = Nat.min 1 n := ⟨_, rfl⟩
  have HM := Lib.hid hm
  have hmn : m ≤ n ∧ m ≤ 1 := ⟨by rw [hm]; exact Nat.min_le_right _ _, by rw [hm]; exact Nat.min_le_left _ _⟩
  have hml : (List.replicate m (Value.int .i64 z)).length = m := List.length_replicate
  clear hm
  go_wp2_with (refine wpList_copy_splice rfl (.tmp 31) (.tmp 32) 24 24 rfl 3 Try.underlying24 hsz (some ⟨g, 0, none⟩) (some A) n n 1 c rfl rfl g 0 _ 3 HW.out (List.replicate m (.int .i64 z)) ?d1 ?d2 ?d3 ?d4 w1.heap.size w1 B1.out (by rw [HG.out]; exact Nat.le_refl _) ?_)
  case d1 => rw [hml]; exact HM.out
  case d2 =>
    intro h0 j v hj
    have hm1 : m = 1 := by
      have : 0 < m := by simpa using h0
      omega
    subst hm1
    cases j with
    | zero => simp at hj; subst hj; rw [show A.add 0 = A by simp [Addr.add]]; exact HC2.out
    | succ j => simp at hj
  case d3 => rw [hml]; simp; omega
  case d4 => intro v hv; rw [(List.mem_replicate.1 hv).2]; rfl
  intro w3 hw3 b3
  have HW3 : Hid (Whole w3 g (List.replicate m (.int .i64 z) ++ List.replicate (n - m) (.int .i64 0))) := Lib.hid (by
    have := rep_splice n 0 m (.int .i64 z) (.int .i64 0) (by omega)
    rw [Nat.zero_add] at this
    unfold Whole
    rw [← this]; exact hw3.out)
  have B3 := Lib.hid b3
  have hm1 : m = n ∨ 1 ≤ m := by have := HM.out; rw [this]; simp only [Nat.min_def]; split <;> omega
  clear hw3 b3 HW B1 HC2 hml
  go_wp2_with fail
  go_loopg [8] n (fun gk v wr => ∃ k : Nat, k ≤ n ∧ n - k ≤ gk ∧ v = .int .i64 k ∧ (k = n ∨ 1 ≤ k) ∧ Hid (Whole wr g (List.replicate k (.int .i64 z) ++ List.replicate (n - k) (.int .i64 0))) ∧ Hid (Below w1.heap.size w1 wr))
  case atStart => exact ⟨m, by omega, by omega, rfl, hm1, HW3, B3⟩
  case round =>
    clear HW3 B3 hm1 hmn
    obtain ⟨k, hk, hgk, rfl, hk1, HW, HB⟩ := hrel
    by_cases hlt : k < n
    · have kz : (k : Int) < (n : Int) := by omega
      have k1 : 1 ≤ k := by omega
      have kn : ¬ n = k := by omega
      obtain ⟨q, hq⟩ : ∃ q, q = Nat.min k (n - k) := ⟨_, rfl⟩
      have hqk : q ≤ k ∧ q ≤ n - k ∧ 1 ≤ q := by rw [hq]; simp only [Nat.min_def]; split <;> omega
      have HQ := Lib.hid hq
      have hql : (List.replicate q (Value.int .i64 z)).length = q := List.length_replicate
      have s2 := Lib.hid (fun (j : Nat) (v : Value) (hj : (List.replicate q (Value.int .i64 z))[j]? = some v) => show wr.cell? ((⟨g, 0, none⟩ : Addr).add j) = some v from by
        have hjq : j < q := by
          rcases Nat.lt_or_ge j q with h | h
          · exact h
          · rw [List.getElem?_eq_none (by simpa using h)] at hj; cases hj
        have e1 : ((⟨g, 0, none⟩ : Addr).add j) = ⟨g, j, none⟩ := by simp [Addr.add] <;> omega
        rw [e1, whole_at HW.out (by omega)]
        simp [hjq] at hj
        rw [hj])
      have s3 : k + (List.replicate q (Value.int .i64 z)).length ≤ (List.replicate k (Value.int .i64 z) ++ List.replicate (n - k) (Value.int .i64 0)).length := by simp; omega
      have S3 := Lib.hid s3
      have HSP := Lib.hid (rep_splice n k q (.int .i64 z) (.int .i64 0) (by omega))
      obtain ⟨r, hr⟩ : ∃ r, r = k + q := ⟨_, rfl⟩
      have sz : (k : Int) + (q : Int) = (r : Int) := by omega
      have HRR := Lib.hid hr
      have wr1 : IntKind.i64.wrap (r : Int) = (r : Int) := IntWalk.i64_in _ (by omega)
      rw [← hr] at HSP
      have rn : r ≤ n ∧ 1 ≤ r ∧ k < r := by omega
      clear hr
      clear hq hk1 s3
      go_wp2
      go_region_law (refine step_copy_splice (by rfl) _ _ 24 24 (by rfl) 3 Try.underlying24 hsz (some ⟨g, k, none⟩) (some ⟨g, 0, none⟩) (n - k) (n - k) k n (by go_simp) (by go_simp) g k (List.replicate k (.int .i64 z) ++ List.replicate (n - k) (.int .i64 0)) 3 (by exact HW.out) (List.replicate q (.int .i64 z)) (by rw [List.length_replicate]; exact HQ.out) (by intro _; exact ⟨rfl, _, rfl, s2.out⟩) S3.out (fun v hv => by rw [(List.mem_replicate.1 hv).2]; rfl) w1.heap.size w1 (by exact Below.drew HB.out) (by rw [HG.out]; exact Nat.le_refl _) ?_; intro w5 hw5 b5; have B5 := Lib.hid b5; have W5 : Hid (Whole w5 g (List.replicate r (.int .i64 z) ++ List.replicate (n - r) (.int .i64 0))) := Lib.hid (by unfold Whole; rw [← HSP.out]; exact hw5.out); clear hw5 b5; simp only [List.length_replicate])
      all_goals
        go_wp2
        go_roundg (n - r)
        case measure => omega
        case rel => exact ⟨r, by omega, Nat.le_refl _, by first | rfl | go_num, .inr (by omega), W5, B5⟩
    · obtain rfl : k = n := by omega
      have kz : ¬ (k : Int) < (k : Int) := by omega
      rw [Nat.sub_self, List.replicate_zero, List.append_nil] at HW
      clear hk1
      go_wp2
      go_ret
      exact ⟨g, rfl, HW.out, by rw [HG.out]; exact Nat.le_refl _, HB.out⟩
end Go.Proofs.Ytonlbcibfbbpgaa.Od
namespace Go.Proofs.Ytonlbcibfbbpgaa.Od
open Go.RowKit Go.Lib Rw Ls _root_.Go.Proofs.Ytonlbcibfbbpgaa.Nm

/-- the program's row: the place, or -1 -/
def plOf (out : List Nat) (had : List Bool) : List Int := List.zipWith (fun (o : Nat) h => if h = true then (o : Int) else -1) out had
theorem plOf_length {out : List Nat} {had : List Bool} {n : Nat} (h1 : out.length = n) (h2 : had.length = n) : (plOf out had).length = n := by simp [plOf, h1, h2]
theorem plOf_set (out : List Nat) (had : List Bool) (x k : Nat) : (plOf out had).set x (k : Int) = plOf (out.set x k) (had.set x true) := by
  unfold plOf
  apply List.ext_getElem?
  intro i
  simp only [List.getElem?_set, List.getElem?_zipWith, List.length_zipWith]
  by_cases e : x = i
  · subst e
    by_cases h1 : x < out.length <;> by_cases h2 : x < had.length <;> simp [h1, h2]
    all_goals omega
  · simp [e]
theorem plOf_at {out : List Nat} {had : List Bool} {n x : Nat} (h1 : out.length = n) (h2 : had.length = n) (hx : x < n) : (plOf out had).getD x 0 = if had.getD x false = true then ((out.getD x 0 : Nat) : Int) else -1 := by
  have a1 : x < out.length := by omega
  have a2 : x < had.length := by omega
  simp [plOf, List.getD_eq_getElem?_getD, List.getElem?_zipWith, a1, a2]
theorem plOf_none (n : Nat) : plOf (List.replicate n 0) (List.replicate n false) = List.replicate n (-1) := by
  unfold plOf; simp
theorem plOf_all {out : List Nat} {had : List Bool} (h1 : had.length = out.length) (h : ∀ x, x < out.length → had.getD x false = true) : plOf out had = up out := by
  apply List.ext_getElem?
  intro i
  by_cases hi : i < out.length
  · have := h i hi
    have h2 : i < had.length := by omega
    rw [List.getD_eq_getElem?_getD, List.getElem?_eq_getElem h2, Option.getD_some] at this
    simp [plOf, up, List.getElem?_zipWith, hi, h2, this]
  · rw [List.getElem?_eq_none (by simp [plOf]; omega), List.getElem?_eq_none (by rw [up_length]; omega)]
theorem whole_arr {w : World} {B g n : Nat} {xs : List Value} (h : Whole w g xs) (hB : B ≤ g) (hl : xs.length = n) (hn : n ≤ maxLen) : Arr w B 3 g n xs :=
  ⟨by rw [hl, Nat.mul_one], .inr ⟨g, n, xs.toArray, rfl, hB, h, Nat.le_refl _, hn, by simp [hl], by simp [← hl]⟩⟩
theorem zs_rep (n : Nat) (z : Int) : List.replicate n (Value.int .i64 z) = zs (List.replicate n z) := by simp [zs]
set_option maxHeartbeats 8000000 in
set_option maxRecDepth 100000 in
theorem pinverse_any (L : List Int) (p : Option Addr) (c : Nat) (w : World) (hr : Rd w p (zs L)) (hl : L.length ≤ 17592186044416) :
    Calls Try.prog 48 #[.slice p L.length c] w (PlacesP w (invL L) (invE L)) := by
  obtain ⟨n, hn⟩ : ∃ n, n = L.length := ⟨_, rfl⟩
  have HR := Lib.hid hr
  rw [← hn] at hl ⊢
  have HN := Lib.hid hn
  have HI : Hid (invGo n (L.drop 0) 0 (List.replicate n 0) (List.replicate n false) = inv L) := Lib.hid (by rw [hn]; rfl)
  have C1 := Lib.hid (repeat_any n (-1) ⟨w.heap.size, 0, none⟩ 1 (w.alloc (.cells #[.int .i64 (-1)] 3)) hl (by simp) (by simp))
  clear hr hn
  go_enter Try.func48, Try.ntmps48
  go_wp2_with fail
  ((with_reducible refine C1.out.mono ?_); rintro e w1 ⟨g, rfl, hw, hg, hb⟩)
  have hgs : g < w1.heap.size := (Array.getElem?_eq_some_iff.1 hw).1
  have hg2 : w.heap.size ≤ g := by simp at hg; omega
  have A1 : Hid (Arr w1 g 3 g n (zs (plOf (List.replicate n 0) (List.replicate n false)))) := Lib.hid (by rw [plOf_none, ← zs_rep]; exact whole_arr hw (Nat.le_refl _) (by simp) (by unfold maxLen; omega))
  have B1 : Hid (Below w.heap.size w w1) := Lib.hid (((Below.refl _ w).alloc (Nat.le_refl _) _).trans (hb.mono (by simp)))
  have HG := Lib.hid hg2
  clear hw hg hb C1 hgs hg2
  go_wp2_with fail
  go_loopw [13] (fun i wr => ∃ (k : Nat) (out : List Nat) (had : List Bool), k ≤ n ∧ i = .int .i64 k ∧ Hid (invGo n (L.drop k) k out had = inv L) ∧ Hid (out.length = n ∧ had.length = n ∧ ∀ j, j < k → had.getD (L.getD j 0).toNat false = true) ∧ Hid (Arr wr g 3 g n (zs (plOf out had))) ∧ Hid (Below w.heap.size w wr)) (fun i _ => n - (intOf i).toNat)
  case atStart => exact ⟨0, _, _, by omega, rfl, HI, Lib.hid ⟨by simp, by simp, fun j h => absurd h (by omega)⟩, A1, B1⟩
  case round =>
    clear HI A1 B1
    obtain ⟨k, out, had, hk, rfl, HV, HH, HA, HB⟩ := hrel
    by_cases hlt : k < n
    · have hkL : k < L.length := by rw [← HN.out]; exact hlt
      obtain ⟨ad, rfl, cx⟩ := rd_z (HR.out.below HB.out) k hkL
      obtain ⟨X, hX⟩ : ∃ X, X = L.getD k 0 := ⟨_, rfl⟩
      rw [← hX] at cx
      have hst : invGo n (L.drop k) k out had = if X < 0 ∨ (n : Int) ≤ X ∨ had.getD X.toNat false = true then none else invGo n (L.drop (k + 1)) (k + 1) (out.set X.toNat k) (had.set X.toNat true) := by
        rw [List.drop_eq_getElem_cons hkL, hX]
        simp only [invGo, List.getD_eq_getElem?_getD, List.getElem?_eq_getElem hkL, Option.getD_some]
      rw [HV.out] at hst
      have k0 : (0 : Int) ≤ (k : Int) := by omega
      have k1 : (k : Int) < (n : Int) := by omega
      have HST := Lib.hid hst; have HX := Lib.hid hX
      clear hX hst HV
      by_cases h1 : X < 0
      · have t1 : decide (X < 0) = true := decide_eq_true h1
        have E := Lib.hid (inv_no (by have := HST.out; rwa [if_pos (.inl h1)] at this))
        rw [E.out.2]
        clear h1
        go_wp2_with fail
        refine bodyPost_ret (v := .tuple #[.slice none 0 0, .int .i64 2]) (by simp [results, Try.results48, go_sem]) rfl ?_
        exact places_no E.out.1 HB.out
      by_cases h2 : (n : Int) ≤ X
      · have t1 : decide (X < 0) = false := decide_eq_false h1
        have t2 : decide ((n : Int) ≤ X) = true := decide_eq_true h2
        have E := Lib.hid (inv_no (by have := HST.out; rwa [if_pos (.inr (.inl h2))] at this))
        rw [E.out.2]
        clear h1 h2
        go_wp2_with fail
        refine bodyPost_ret (v := .tuple #[.slice none 0 0, .int .i64 2]) (by simp [results, Try.results48, go_sem]) rfl ?_
        exact places_no E.out.1 HB.out
      obtain ⟨x, rfl⟩ : ∃ x : Nat, X = (x : Int) := ⟨X.toNat, by omega⟩
      have hxn : x < n := by omega
      have t1 : decide ((x : Int) < 0) = false := decide_eq_false h1
      have t2 : decide (n ≤ x) = false := decide_eq_false (by omega)
      have t3 : decide ((n : Int) ≤ (x : Int)) = false := decide_eq_false h2
      have x0 : (0 : Int) ≤ (x : Int) := by omega
      have x1 : (x : Int) < (n : Int) := by omega
      have hp := plOf_at HH.out.1 HH.out.2.1 hxn
      have ch := HA.out.cell hxn
      rw [zs_getD _ _ (by rw [plOf_length HH.out.1 HH.out.2.1]; exact hxn), hp] at ch
      have fa := HA.out.free x
      cases hd : had.getD x false with
      | true =>
        rw [if_pos hd] at ch
        have t4 : (((out.getD x 0 : Nat) : Int) != -1) = true := by first | (simp; done) | (simp; omega)
        have E := Lib.hid (inv_no (by have := HST.out; rwa [if_pos (.inr (.inr (by rw [Int.toNat_natCast]; exact hd)))] at this))
        rw [E.out.2]
        generalize ((out.getD x 0 : Nat) : Int) = y at ch t4
        clear h1 h2 hd hp
        go_wp2_with fail
        refine bodyPost_ret (v := .tuple #[.slice none 0 0, .int .i64 2]) (by simp [results, Try.results48, go_sem]) rfl ?_
        exact places_no E.out.1 HB.out
      | false =>
        rw [hd, if_neg (by simp)] at ch
        have E : Hid (invGo n (L.drop (k + 1)) (k + 1) (out.set x k) (had.set x true) = inv L) := Lib.hid (by
          have := HST.out
          rw [Int.toNat_natCast, hd, if_neg (by rintro (h | h | h) <;> first | omega | cases h)] at this
          exact this.symm)
        have S2 := HA.out.set x (.int .i64 (k : Nat))
        rw [zs_set, plOf_set] at S2
        have S4 := below_put HB.out (a := ⟨g, x, none⟩) HG.out (.int .i64 (k : Nat))
        have P2 := Lib.hid S2; have P4 := Lib.hid S4
        have PH : Hid ((out.set x k).length = n ∧ (had.set x true).length = n ∧ ∀ j, j < k + 1 → (had.set x true).getD (L.getD j 0).toNat false = true) := Lib.hid (by
          refine ⟨by rw [List.length_set]; exact HH.out.1, by rw [List.length_set]; exact HH.out.2.1, fun j hj => ?_⟩
          have hxl : x < had.length := by rw [HH.out.2.1]; exact hxn
          by_cases e : j = k
          · subst e
            rw [← HX.out, Int.toNat_natCast, List.getD_eq_getElem?_getD, List.getElem?_set_self hxl]; rfl
          · have h3 := HH.out.2.2 j (by omega)
            by_cases e2 : (L.getD j 0).toNat = x
            · rw [e2, List.getD_eq_getElem?_getD, List.getElem?_set_self hxl]; rfl
            · rw [List.getD_eq_getElem?_getD, List.getElem?_set_ne (fun h => e2 h.symm), ← List.getD_eq_getElem?_getD]; exact h3)
        clear h1 h2 hd hp S2 S4
        go_wp2_with fail
        go_roundw
        case rel => exact ⟨k + 1, _, _, by omega, by go_num, E, PH, P2, P4⟩
        case measure => simp [intOf]; omega
    · obtain rfl : k = n := by omega
      have hv2 : inv L = some out := by
        rw [← HV.out, List.drop_eq_nil_of_le (by rw [← HN.out]; exact Nat.le_refl _)]; rfl
      have hpl : plOf out had = up out := by
        obtain ⟨P, hP, hperm⟩ := perm_of_inv hv2
        refine plOf_all (by rw [HH.out.1, HH.out.2.1]) fun x hx => ?_
        have hPl : P.length = k := by have := HN.out; rw [hP, up_length] at this; exact this.symm
        have hm : x ∈ P := hperm.mem_iff.2 (List.mem_range.2 (by rw [hPl, ← HH.out.1]; exact hx))
        obtain ⟨j, hj, e⟩ := List.getElem_of_mem hm
        have h3 := HH.out.2.2 j (by omega)
        have e2 : (L.getD j 0).toNat = x := by
          rw [hP]
          simp [up, List.getD_eq_getElem?_getD, hj, e]
        rw [e2] at h3
        exact h3
      have E := Lib.hid (inv_yes hv2)
      have HOL := Lib.hid HH.out.1
      rw [hpl] at HA
      clear hv2 hpl
      go_wp2_with fail
      refine bodyPost_ret (v := .tuple #[.slice (some ⟨g, 0, none⟩) k k, .int .i64 0]) (by simp [results, Try.results48, go_sem]) rfl ?_
      rw [E.out.1, E.out.2]
      exact ⟨some ⟨g, 0, none⟩, k, (by rw [HOL.out] : Ending.returned (.tuple #[.slice (some ⟨g, 0, none⟩) k k, .int .i64 0]) = Ending.returned (.tuple #[.slice (some ⟨g, 0, none⟩) out.length k, .int .i64 0])), by rw [HOL.out]; exact Nat.le_refl _, HA.out.rd, fun a e => by cases e; exact HG.out, Fz.of_own HA.out _, HB.out⟩
end Go.Proofs.Ytonlbcibfbbpgaa.Od
