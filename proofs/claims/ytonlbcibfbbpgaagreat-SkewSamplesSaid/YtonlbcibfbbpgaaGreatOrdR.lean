/- rerank and sorted: the order of a list of ranks' ends. -/
import Derived.Test.YtonlbcibfbbpgaaGreatOrdA
namespace Go.Proofs.YtonlbcibfbbpgaaGreat.Od
open Go.RowKit Go.Lib Rw Ls St _root_.Go.Proofs.YtonlbcibfbbpgaaGreat.Nm

/-- the ranks anew, and how many are unlike -/
def RrP (R E : List Nat) (s n : Nat) (w : World) (e : Ending) (w' : World) : Prop := ∃ (q : Option Addr) (c : Nat), e = .returned (.tuple #[.slice q n c, .int .i64 (cls (cf R s) E (n - 1))]) ∧ Rd w' q (zs (up (rrO (cf R s) E n n))) ∧ NewAt w.heap.size q ∧ Below w.heap.size w w'
theorem gr_below {w w' : World} (h : ∃ q os, w' = Go.Sort.grow (w.drewN q) os) : Below w.heap.size w w' := by
  obtain ⟨q, os, rfl⟩ := h
  exact ⟨rfl, rfl, rfl, by rw [Go.Sort.size_grow]; exact Nat.le_add_right _ _, fun k hk => Go.Sort.heap_grow_old _ _ hk⟩
set_option maxHeartbeats 8000000 in
set_option maxRecDepth 100000 in
theorem rerank_any (R E : List Nat) (s g cap n b2 b3 b5 c : Nat) (p : Option Addr) (w : World) (h1 : 1 ≤ n) (hsb : s ≤ 10000000000) (hl : n ≤ 1000000000) (hlt : ∀ i, i < n → E.getD i 0 < n) (hZ : Zr w g n E) (hC : Cap w b2 b3 b5 n c s p R) :
    Calls Tryz.prog 37 #[.slice (some ⟨g, 0, none⟩) n cap, .func (.func 56) #[] #[.pointer (some ⟨b2, 0, none⟩), .pointer (some ⟨b5, 0, none⟩)]] w (RrP R E s n w) := by
  obtain ⟨i0, hi0, hz0, hz1, hz2⟩ := info_parts info_int
  have HZ := Lib.hid hZ; have HC := Lib.hid hC; have HT := Lib.hid hlt
  have lg := hZ.lt
  clear hZ hC hlt
  have ea := versus_enters
  go_enter Tryz.func37, Tryz.ntmps37
  go_wp2_with (at_make; refine wpList_make_full _ rfl _ _ 27 rfl w.heap.size 3 i0 (.int .i64 0) 1 Tryz.underlying27 hi0 hz0 hz1 .i64 .i64 ↑n ↑n n rfl rfl rfl rfl ?c1 ?c2 ?c3 ?_)
  case c1 => rw [hz2]; omega
  case c2 => unfold maxLen; omega
  case c3 => simp
  intro w1 hown1 hgr1
  have b1 : Below w.heap.size w w1 := (Below.refl _ w).grown hgr1 (Nat.le_refl _) (by simp)
  rw [toList_madeCells_one] at hown1
  have B1 := Lib.hid b1
  have A1 : Hid (Arr w1 w.heap.size 3 w.heap.size n (zs (up (rrO (cf R s) E n 0)))) := Lib.hid (by rw [rrO, ← zs_zeros]; exact hown1)
  clear b1 hown1 hgr1
  obtain ⟨gr, hgr⟩ : ∃ gr, gr = w.heap.size := ⟨_, rfl⟩
  have A2 : Hid (Arr w1 gr 3 gr n (zs (up (rrO (cf R s) E n 0)))) := Lib.hid (by rw [hgr]; exact A1.out)
  rw [← hgr]
  have HG := Lib.hid hgr
  have lg2 : g < gr := by omega
  clear A1 hgr lg
  go_wp2_with fail
  go_loopw [7, 15] (fun v i wr => ∃ (k u : Nat), k ≤ n ∧ i = .int .i64 k ∧ v = .int .i64 u ∧ Hid (u = if k = 0 then 0 else cls (cf R s) E (k - 1)) ∧ u ≤ k ∧ Hid (Arr wr gr 3 gr n (zs (up (rrO (cf R s) E n k)))) ∧ Hid (Below w.heap.size w wr)) (fun _ i _ => n - (intOf i).toNat)
  case atStart => exact ⟨0, 0, by omega, rfl, rfl, Lib.hid rfl, Nat.le_refl _, A2, B1⟩
  case round =>
    obtain ⟨k, u, hk, rfl, rfl, HU, huk, HA, HB⟩ := hrel
    by_cases hlt : k < n
    · have kz : (k : Int) < (n : Int) := by omega
      obtain ⟨x, hx⟩ : ∃ x, x = E.getD k 0 := ⟨_, rfl⟩
      have hxn : x < n := by rw [hx]; exact HT.out k hlt
      have xz : (x : Int) < (n : Int) := by omega
      have HX := Lib.hid hx
      clear hx
      have cE := (HZ.out.below (HB.out)).cell k hlt
      rw [← HX.out] at cE
      -- behind the test: the place is given its rank
      have hend : ∀ (u2 : Nat) (W : World), u2 = cls (cf R s) E k → Below wr.heap.size wr W → ∃ ov, W.cell? ⟨gr, x, none⟩ = some ov ∧ W.frozen? ⟨gr, x, none⟩ = false ∧ Arr (W.setCell ⟨gr, x, none⟩ (.int .i64 u2)) gr 3 gr n (zs (up (rrO (cf R s) E n (k + 1)))) ∧ Below w.heap.size w (W.setCell ⟨gr, x, none⟩ (.int .i64 u2)) := fun u2 W hu hb => by
        have hA := HA.out.below hb
        refine ⟨_, hA.cell hxn, hA.free x, ?_, ?_⟩
        · have := hA.set x (.int .i64 (u2 : Nat))
          rw [zs_set, up_set] at this
          rw [rrO, ← HX.out, ← hu]
          exact this
        · exact below_put (HB.out.trans (hb.mono HB.out.size)) (a := ⟨gr, x, none⟩) (by rw [← HG.out]; exact Nat.le_refl _) _
      have HE := Lib.hid hend
      clear hend
      by_cases k0 : k = 0
      · subst k0
        obtain ⟨ov, c1, f1, a1, b1⟩ := HE.out 1 wr rfl (Below.refl _ _)
        have u0 : u = 0 := HU.out
        subst u0
        have H1 := Lib.hid a1; have H2 := Lib.hid b1
        clear a1 b1 HE
        go_wp2_with fail
        go_roundw
        case rel => exact ⟨1, 1, by omega, by first | rfl | go_num, by first | rfl | go_num, Lib.hid rfl, Nat.le_refl _, H1, H2⟩
        case measure => simp [intOf]; omega
      · obtain ⟨j, hj⟩ : ∃ j, j = k - 1 := ⟨_, rfl⟩
        have jz : (k : Int) - 1 = (j : Int) := by omega
        have jn : j < n := by omega
        have jnz : (j : Int) < (n : Int) := by omega
        have kz0 : ((k : Int) == 0) = false := by simp; omega
        have hU2 : u = cls (cf R s) E j := by have := HU.out; rw [if_neg k0, ← hj] at this; exact this
        have hk1 : k = j + 1 := by omega
        obtain ⟨y, hy⟩ : ∃ y, y = E.getD j 0 := ⟨_, rfl⟩
        have hyn : y < n := by rw [hy]; exact HT.out j jn
        have cJ := (HZ.out.below (HB.out)).cell j jn
        rw [← hy] at cJ
        obtain ⟨z, hz⟩ : ∃ z, z = cf R s y x := ⟨_, rfl⟩
        have C := Lib.hid (versus_any y x s b2 b3 b5 n c p R wr (HC.out.below HB.out) hl hsb hyn hxn)
        rw [← hz] at C
        have hcl : cls (cf R s) E k = u + if z = 0 then 0 else 1 := by
          rw [hk1, cls, hU2, hz, hy, HX.out, hk1]
        have HCL := Lib.hid hcl; have HJ := Lib.hid hk1
        clear hj hU2 hy hz hcl hk1 HU
        by_cases z0 : z = 0
        · subst z0
          go_wp2_with fail
          ((with_reducible refine C.out.mono ?_); rintro e w2 ⟨rfl, hg⟩)
          have hb := gr_below hg
          obtain ⟨ov, c1, f1, a1, b1⟩ := HE.out u w2 (by rw [HCL.out]; rfl) hb
          have H1 := Lib.hid a1; have H2 := Lib.hid b1
          clear a1 b1 HE C hb hg
          go_wp2_with fail
          go_roundw
          case rel => exact ⟨k + 1, u, by omega, by first | rfl | go_num, rfl, Lib.hid (by rw [if_neg (by omega), Nat.add_sub_cancel, HCL.out]; rfl), by omega, H1, H2⟩
          case measure => simp [intOf]; omega
        · have zn : (z != 0) = true := by simpa using z0
          have HZ0 := Lib.hid z0
          clear z0
          go_wp2_with fail
          ((with_reducible refine C.out.mono ?_); rintro e w2 ⟨rfl, hg⟩)
          have hb := gr_below hg
          obtain ⟨ov, c1, f1, a1, b1⟩ := HE.out (u + 1) w2 (by rw [HCL.out, if_neg HZ0.out]) hb
          have H1 := Lib.hid a1; have H2 := Lib.hid b1
          clear a1 b1 HE C hb hg
          go_wp2_with fail
          go_roundw
          case rel => exact ⟨k + 1, u + 1, by omega, by first | rfl | go_num, by first | rfl | go_num, Lib.hid (by rw [if_neg (by omega), Nat.add_sub_cancel, HCL.out, if_neg HZ0.out]), by omega, H1, H2⟩
          case measure => simp [intOf]; omega
    · obtain rfl : k = n := by omega
      have kz : ¬ (k : Int) < (k : Int) := by omega
      have hu : u = cls (cf R s) E (k - 1) := by have := HU.out; rw [if_neg (by omega)] at this; exact this
      have HUU := Lib.hid hu
      clear hu HU
      go_wp2_with fail
      refine bodyPost_ret (v := .tuple #[.slice (some ⟨gr, 0, none⟩) k k, .int .i64 u]) (by simp [results, Tryz.results37, go_sem]) rfl ?_
      rw [HUU.out]
      exact ⟨some ⟨gr, 0, none⟩, k, rfl, HA.out.rd, fun a e => by cases e; rw [← HG.out]; exact Nat.le_refl _, HB.out⟩
/-- new places -/
def NewP (w : World) (L : List Nat) (e : Ending) (w' : World) : Prop := ∃ (q : Option Addr) (c : Nat), e = .returned (.slice q L.length c) ∧ c = L.length ∧ Rd w' q (zs (up L)) ∧ NewAt w.heap.size q ∧ Fz w' q L.length ∧ (∀ a, q = some a → ∃ g, a = ⟨g, 0, none⟩) ∧ Below w.heap.size w w'
theorem zs_range (n : Nat) : ∀ k, k ≤ n → up (List.range k ++ List.replicate (n - k) 0) = up (List.range k ++ List.replicate (n - k) 0) := fun _ _ => rfl
theorem range_set (n k : Nat) (h : k < n) : (List.range k ++ List.replicate (n - k) 0).set k k = List.range (k + 1) ++ List.replicate (n - (k + 1)) 0 := by
  rw [show n - k = (n - (k + 1)) + 1 by omega, List.replicate_succ, List.set_append_right _ _ (by simp)]
  simp [List.range_succ]
set_option maxHeartbeats 8000000 in
set_option maxRecDepth 100000 in
theorem sorted_any (l R : List Nat) (p : Option Addr) (c n : Nat) (w : World) (hn : n = l.length) (hl : n ≤ 1000000000) (hr : Rd w p (zs (up R))) (hI : IsR l R 1) :
    Calls Tryz.prog 17 #[.slice p n c] w (NewP w (ends l)) := by
  obtain ⟨i0, hi0, hz0, hz1, hz2⟩ := info_parts info_int
  have HR := Lib.hid hr; have HI := Lib.hid hI; have HN := Lib.hid hn
  have hp0 : n = 0 ∨ ∃ a, p = some a ∧ a.block < w.heap.size := by
    by_cases h0 : n = 0
    · exact .inl h0
    · exact .inr (hr.form (by rw [zs_length, up_length, hI.len, ← hn]; omega))
  have HP := Lib.hid hp0
  clear hr hI hn hp0
  go_enter Tryz.func17, Tryz.ntmps17
  go_wp2_with (at_make; refine wpList_make_full _ rfl _ _ 27 rfl w.heap.size 3 i0 (.int .i64 0) 1 Tryz.underlying27 hi0 hz0 hz1 .i64 .i64 ↑n ↑n n rfl rfl rfl rfl ?c1 ?c2 ?c3 ?_)
  case c1 => rw [hz2]; omega
  case c2 => unfold maxLen; omega
  case c3 => simp
  intro w1 hown1 hgr1
  have b1 : Below w.heap.size w w1 := (Below.refl _ w).grown hgr1 (Nat.le_refl _) (by simp)
  rw [toList_madeCells_one] at hown1
  have B1 := Lib.hid b1
  obtain ⟨g, hg⟩ : ∃ g, g = w.heap.size := ⟨_, rfl⟩
  have A1 : Hid (Arr w1 g 3 g n (zs (up (List.range 0 ++ List.replicate (n - 0) 0)))) := Lib.hid (by rw [hg, List.range_zero, List.nil_append, Nat.sub_zero, ← zs_zeros]; exact hown1)
  rw [← hg]
  have HG := Lib.hid hg
  clear b1 hown1 hgr1 hg
  go_wp2_with fail
  go_loopw [13] (fun i wr => ∃ k : Nat, k ≤ n ∧ i = .int .i64 k ∧ Hid (Arr wr g 3 g n (zs (up (List.range k ++ List.replicate (n - k) 0)))) ∧ Hid (Below w.heap.size w wr)) (fun i _ => n - (intOf i).toNat)
  case atStart => exact ⟨0, by omega, rfl, A1, B1⟩
  case round =>
    obtain ⟨k, hk, rfl, HA, HB⟩ := hrel
    by_cases hlt : k < n
    · have kz : (k : Int) < (n : Int) := by omega
      have c1 := HA.out.cell hlt
      have f1 := HA.out.free k
      obtain ⟨ov, hov⟩ : ∃ ov, ov = (zs (up (List.range k ++ List.replicate (n - k) 0))).getD k (.bool false) := ⟨_, rfl⟩
      rw [← hov] at c1
      have S1 := HA.out.set k (.int .i64 (k : Nat))
      rw [zs_set, up_set, range_set n k hlt] at S1
      have S2 := below_put HB.out (a := ⟨g, k, none⟩) (by rw [← HG.out]; exact Nat.le_refl _) (.int .i64 (k : Nat))
      have P1 := Lib.hid S1; have P2 := Lib.hid S2
      clear S1 S2 hov
      go_wp2_with fail
      go_roundw
      case rel => exact ⟨k + 1, by omega, by first | rfl | go_num, P1, P2⟩
      case measure => simp [intOf]; omega
    · obtain rfl : k = n := by omega
      have kz : ¬ (k : Int) < (k : Int) := by omega
      have Z1 : Hid (Zr wr g k (List.range k)) := Lib.hid (by have := Zr.of_arr HA.out; rw [Nat.sub_self, List.replicate_zero, List.append_nil] at this; exact this)
      have R1 : Hid (Rd wr p (zs (up R))) := Lib.hid (HR.out.below HB.out)
      clear HA HR
      go_wp2
      go_loopg [0, 5, 6] k (fun gk v0 v5 v6 wr => ∃ (R E : List Nat) (s u : Nat) (q : Option Addr) (cq : Nat), v0 = .slice q k cq ∧ v5 = .int .i64 u ∧ v6 = .int .i64 s ∧ 1 ≤ s ∧ s ≤ 2 * 1000000000 ∧ u ≤ k ∧ (u < k → s ≤ k ∧ k - s + 1 ≤ gk) ∧ Hid (IsR l R s) ∧ Hid (Rd wr q (zs (up R))) ∧ Hid (∀ a, q = some a → a.block ≠ g ∨ k = 0) ∧ Hid (Zr wr g k E) ∧ Hid (E.Perm (List.range k)) ∧ Hid (Below w.heap.size w wr) ∧ Hid (u = k → E = ends l))
      case atStart =>
        refine ⟨R, List.range k, 1, 0, p, c, rfl, rfl, rfl, Nat.le_refl _, by omega, Nat.zero_le _, fun h => ⟨h, by omega⟩, HI, R1, Lib.hid (fun a e => ?_), Z1, Lib.hid (List.Perm.refl _), HB, Lib.hid (fun h => ?_)⟩
        · rcases HP.out with h0 | ⟨a', e', hb⟩
          · exact .inr h0
          · rw [e] at e'; cases e'
            exact .inl (by rw [HG.out]; omega)
        · subst h
          have : l = [] := List.eq_nil_of_length_eq_zero HN.out.symm
          subst this
          rfl
      case round =>
        clear Z1 R1 HB HI HP kz hk hlt
        obtain ⟨R, E, s, u, q, cq, rfl, rfl, rfl, hs1, hsb, hu, hgo, HI, HR, HQ, HZ, HE, HB, HD⟩ := hrel
        by_cases hlt : u < k
        · obtain ⟨hs2, hgk⟩ := hgo hlt
          have uz : (u : Int) < (k : Int) := by omega
          have sz : (s : Int) * 2 = ((s + s : Nat) : Int) := by omega
          have C1 := Lib.hid (against_any k cq s q R wr HR.out (by rw [HI.out.len, HN.out]))
          clear hgo
          go_wp2_with fail
          ((with_reducible refine C1.out.mono ?_); rintro e w2 ⟨rfl, hC, hb2⟩)
          have lz := HZ.out.lt
          have HC := Lib.hid hC; have HB2 := Lib.hid hb2
          have C2 := Lib.hid (sortfunc_any l R E s g k k wr.heap.size (wr.heap.size + 1) (wr.heap.size + 2) cq q w2 HN.out (by omega) hs1 (by omega) hl HI.out HE.out (HZ.out.below hb2) hC (by omega) (by omega) (by omega) (fun a e => by rcases HQ.out a e with h | h; exact h; omega))
          clear hC hb2 C1
          go_wp2_with fail
          ((with_reducible refine C2.out.mono ?_); rintro e w3 ⟨E2, rfl, hS2, hZ2, hb3⟩)
          have HS2 := Lib.hid hS2; have HZ2 := Lib.hid hZ2
          have HC3 : Hid (Cap w3 wr.heap.size (wr.heap.size + 1) (wr.heap.size + 2) k cq s q R) := Lib.hid (HC.out.bar hb3 (fun h => by omega) (fun h => by omega) (fun h => by omega) (fun a e h => by rcases HQ.out a e with h2 | h2; exact h2 h; omega))
          have HB3 : Hid (Below w.heap.size w w3) := Lib.hid ((HB.out.trans (HB2.out.mono HB.out.size)).trans (hb3.below (fun i hi he => by rw [he, HG.out]; exact Nat.le_refl _) (Nat.le_trans HB.out.size HB2.out.size)))
          have C3 := Lib.hid (rerank_any R E2 s g k k wr.heap.size (wr.heap.size + 1) (wr.heap.size + 2) cq q w3 (by omega) (by omega) hl (fun i hi => by have := hS2.lt (i := i) (by rw [← HN.out]; exact hi); rw [HN.out]; exact this) hZ2 HC3.out)
          clear hS2 hZ2 hb3 C2 HC HB2 HC3 lz
          go_wp2_with fail
          ((with_reducible refine C3.out.mono ?_); rintro e w4 ⟨q4, c4, rfl, h41, h42, h43⟩)
          have lz3 := HZ2.out.lt
          have hI4 : IsR l (rrO (cf R s) E2 k k) (s + s) := by have := rerank_ok HI.out hs1 HS2.out; rw [← HN.out] at this; exact this
          have H1 := Lib.hid h41; have H2 : Hid (∀ a, q4 = some a → a.block ≠ g ∨ k = 0) := Lib.hid (fun a e => .inl (by have := h42 a e; omega))
          have H3 := Lib.hid (HZ2.out.below h43); have H4 := Lib.hid (HB3.out.trans (h43.mono HB3.out.size)); have H5 := Lib.hid hI4
          have hcl := cls_le (cf R s) E2 (k - 1)
          have hdone : cls (cf R s) E2 (k - 1) = k → E2 = ends l := fun h => rerank_done HI.out hs1 HS2.out (by rw [← HN.out]; omega) (by rw [← HN.out]; exact h)
          have hall : k ≤ s + s → cls (cf R s) E2 (k - 1) = k := fun h => by have := rerank_all HI.out hs1 HS2.out (by rw [← HN.out]; omega) (by rw [← HN.out]; exact h); rw [← HN.out] at this; exact this
          generalize cls (cf R s) E2 (k - 1) = u2 at hcl hdone hall ⊢
          have H6 := Lib.hid hdone; have H7 := Lib.hid hall
          have H8 : Hid (E2.Perm (List.range k)) := Lib.hid (by rw [HN.out]; exact HS2.out.perm)
          clear h41 h42 h43 hI4 hdone hall C3 HB3 HZ2
          go_wp2
          go_roundg (gk - 1)
          case measure => omega
          case rel => exact ⟨_, E2, s + s, u2, q4, c4, rfl, rfl, by first | rfl | go_num | (congr 1; omega), by omega, by omega, by omega, fun h => ⟨by by_cases h2 : k ≤ s + s; (have := H7.out h2; omega); omega, by by_cases h2 : k ≤ s + s; (have := H7.out h2; omega); omega⟩, H5, H1, H2, H3, H8, H4, H6⟩
        · obtain rfl : u = k := by omega
          have uz : ¬ (u : Int) < (u : Int) := by omega
          have HE2 := Lib.hid (HD.out rfl)
          have hel : (ends l).length = u := by rw [ends_length, HN.out]
          have HEL := Lib.hid hel
          clear hgo hel
          go_wp2
          go_ret
          exact ⟨some ⟨g, 0, none⟩, u, by rw [HEL.out]; rfl, HEL.out.symm, by rw [← HE2.out]; exact HZ.out.rd, fun a e => by cases e; rw [← HG.out]; exact Nat.le_refl _, by rw [HEL.out]; exact HZ.out.fz, fun a e => ⟨g, by cases e; rfl⟩, HB.out⟩
end Go.Proofs.YtonlbcibfbbpgaaGreat.Od
