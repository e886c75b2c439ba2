/- The walks of place, manyOf, extentsRight. -/
import Derived.Test.YtgpheofdeflhdaaDkWalkA
namespace Go.Proofs.Ytgpheofdeflhdaa.Dk
open Go.RowKit Go.Op

theorem search_at (E : List Ext) (p : Option Addr) (n c : Nat) (hn : n = E.length) (b : ByteArray) (w : World) (h : ExtAt w p E) (hs : Sorted E) (hE : n ≤ 1000000000) :
    Calls Try.prog 54 #[.slice p n c, .string b, .func (.func 55) #[] #[]] w fun e w' => e = .returned (.tuple #[.int .i64 (pos E b : Nat), .bool (isAt E b)]) ∧ Below w.heap.size w w' := by
  subst hn
  exact search_any E p c b w h hs hE
set_option maxHeartbeats 1000000 in
theorem place_any (z : Int) (pE pW : Option Addr) (nE cE nW cW : Nat) (fz : Int) (dn : Bool) (E : List Ext) (b : ByteArray) (w : World) (hn : nE = E.length) (h : ExtAt w pE E) (hs : Sorted E) (hE : nE ≤ 1000000000) :
    Calls Try.prog 43 #[.agg #[.int .i64 z, .slice pE nE cE, .slice pW nW cW, .int .i64 fz, .bool dn], .string b] w fun e w' => e = .returned (.tuple #[.int .i64 (pos E b : Nat), .bool (isAt E b)]) ∧ Below w.heap.size w w' := by
  have hbx : Below w.heap.size w (w.alloc (.cells #[.int .i64 z, .slice pE nE cE, .slice pW nW cW, .int .i64 fz, .bool dn] 31)) := (Below.refl _ _).alloc (Nat.le_refl _) _
  have HE := Lib.hid (h.below hbx); have HS := Lib.hid hs; have HN := Lib.hid hn
  clear h hs hn
  go_enter Try.func43, Try.ntmps43
  go_wp2_with fail
  refine (search_at E pE nE cE HN.out b _ HE.out HS.out hE).mono ?_
  rintro e w1 ⟨rfl, b1⟩
  have B := Lib.hid (hbx.trans (b1.mono (by simp)))
  clear b1
  go_wp2_with fail
  go_ret2
  exact ⟨rfl, B.out⟩

/-- how many sectors there are by a name -/
def lookN (E : List Ext) (b : ByteArray) : Nat := if isAt E b = true then many (E.getD (pos E b) default).2 else 0
theorem isAt_lt {E : List Ext} {b : ByteArray} (h : isAt E b = true) : pos E b < E.length := by
  unfold isAt at h
  rw [Bool.and_eq_true] at h
  exact of_decide_eq_true h.1
set_option maxHeartbeats 1000000 in
theorem manyOf_any (z : Int) (pE pW : Option Addr) (nE cE nW cW : Nat) (fz : Int) (dn : Bool) (E : List Ext) (b : ByteArray) (w : World) (hn : nE = E.length) (h : ExtAt w pE E) (hs : Sorted E) (hE : nE ≤ 1000000000) :
    Calls Try.prog 53 #[.agg #[.int .i64 z, .slice pE nE cE, .slice pW nW cW, .int .i64 fz, .bool dn], .string b] w fun e w' => e = .returned (.int .i64 (lookN E b : Nat)) ∧ Below w.heap.size w w' := by
  have hbx : Below w.heap.size w (w.alloc (.cells #[.int .i64 z, .slice pE nE cE, .slice pW nW cW, .int .i64 fz, .bool dn] 31)) := (Below.refl _ _).alloc (Nat.le_refl _) _
  have HE := Lib.hid (h.below hbx); have HS := Lib.hid hs; have HN := Lib.hid hn
  have HB := Lib.hid (Boxed.new w #[.int .i64 z, .slice pE nE cE, .slice pW nW cW, .int .i64 fz, .bool dn] 31)
  clear h hs hn
  cases hi : isAt E b with
  | false =>
    have F : Hid ((0 : Int) = (lookN E b : Nat)) := Lib.hid (by unfold lookN; rw [if_neg (by rw [hi]; simp)]; rfl)
    have HI := Lib.hid hi
    clear hi
    go_enter Try.func53, Try.ntmps53
    go_wp2_with fail
    refine (place_any z pE pW nE cE nW cW fz dn E b _ HN.out HE.out HS.out hE).mono ?_
    rw [HI.out]
    rintro e w1 ⟨rfl, b1⟩
    have B := Lib.hid (hbx.trans (b1.mono (by simp)))
    clear b1
    go_wp2_with fail
    go_ret
    exact ⟨ret_int F.out, B.out⟩
  | true =>
    have hlt := isAt_lt hi
    obtain ⟨k, hk⟩ : ∃ k, k = pos E b := ⟨_, rfl⟩
    have F : Hid ((many (E.getD k default).2 : Int) = (lookN E b : Nat)) := Lib.hid (by unfold lookN; rw [if_pos hi, hk])
    have HI := Lib.hid hi; have HK := Lib.hid hk
    rw [← hk] at hlt
    have hkn : k < nE := by rw [HN.out]; exact hlt
    clear hi hk hlt
    go_enter Try.func53, Try.ntmps53
    go_wp2_with fail
    refine (place_any z pE pW nE cE nW cW fz dn E b _ HN.out HE.out HS.out hE).mono ?_
    rw [HI.out, ← HK.out]
    rintro e w1 ⟨rfl, b1⟩
    have hb := HB.out.below b1
    have q1 : w1.cell? ⟨w.heap.size, 1, none⟩ = some (.slice pE nE cE) := hb.cell 1 (by simp)
    obtain ⟨g, o, rfl, hg, d0, d1, hz1, hz2⟩ := (HE.out.below b1) k (by rw [← HN.out]; exact hkn)
    obtain ⟨x, hx⟩ : ∃ x, x = (E.getD k default).1 := ⟨_, rfl⟩
    obtain ⟨y, hy⟩ : ∃ y, y = (E.getD k default).2 := ⟨_, rfl⟩
    rw [← hx] at d0 hz1; rw [← hy] at d1 hz2 F
    have B := Lib.hid (hbx.trans (b1.mono (by simp)))
    have m0 : (0 : Int) ≤ (k : Int) := by omega
    have m1 : (k : Int) < (nE : Int) := by omega
    clear b1 hb hx hy
    go_wp2_with fail
    refine (sectorsOf_any x y _ (by omega)).mono ?_
    rintro e w2 ⟨rfl, b2⟩
    have B2 := Lib.hid (B.out.trans (b2.mono B.out.size))
    clear b2
    go_wp2_with fail
    go_ret
    exact ⟨ret_int F.out, B2.out⟩

/-- extents are right behind a name, with so much room -/
def exR : ByteArray → Int → List Ext → Bool
  | _, _, [] => true
  | a, l, x :: r => (named x.1 && nlt a x.1) && ((decide (1 ≤ many x.2) && decide ((many x.2 : Int) ≤ l)) && decide (x.2.size % 64 = 0)) && exR x.1 (l - many x.2) r
theorem exR_rising : ∀ {a : ByteArray} {l : Int} {E : List Ext}, exR a l E = true → rising a E
  | _, _, [], _ => trivial
  | a, l, x :: r, h => by
    simp only [exR, Bool.and_eq_true] at h
    exact ⟨h.1.1.2, exR_rising h.2⟩
theorem exR_sorted {a : ByteArray} {l : Int} {E : List Ext} (h : exR a l E = true) : Sorted E := rising_sorted (exR_rising h)
theorem exR_length : ∀ {a : ByteArray} {l : Int} {E : List Ext}, 0 ≤ l → exR a l E = true → (E.length : Int) ≤ l
  | _, _, [], hl, _ => by simpa using hl
  | a, l, x :: r, hl, h => by
    simp only [exR, Bool.and_eq_true, decide_eq_true_eq] at h
    have := exR_length (by omega) h.2
    rw [List.length_cons]; omega
theorem leq_nlt (x a : ByteArray) : (bytesLess x.toList a.toList || x.toList == a.toList) = !nlt a x := by
  cases h : nlt a x with
  | true =>
    have h1 := nlt_asymm h
    have h2 : (x.toList == a.toList) = false := by
      rw [beq_eq_false_iff_ne]
      intro e
      exact nlt_ne h (toList_inj e).symm
    unfold nlt at h1
    rw [h1, h2]; rfl
  | false =>
    cases h1 : nlt x a with
    | true => unfold nlt at h1; rw [h1]; rfl
    | false =>
      have e := nlt_total h1 h
      subst e
      simp
theorem drop_ext (E : List Ext) (k : Nat) (h : k < E.length) : E.drop k = E.getD k default :: E.drop (k + 1) := by
  rw [List.drop_eq_getElem_cons h]
  simp [List.getD_eq_getElem?_getD, List.getElem?_eq_getElem h]

set_option maxHeartbeats 8000000 in
set_option maxRecDepth 100000 in
theorem extentsRight_any (z : Int) (pE pW : Option Addr) (nE cE nW cW : Nat) (fz : Int) (dn : Bool) (E : List Ext) (w : World) (hn : nE = E.length) (h : ExtAt w pE E) (hE : nE ≤ 9223372036854775807) (z0 : 0 ≤ z) (z1 : z ≤ 16384) :
    Calls Try.prog 40 #[.agg #[.int .i64 z, .slice pE nE cE, .slice pW nW cW, .int .i64 fz, .bool dn]] w fun e w' => e = .returned (.bool (exR ⟨#[]⟩ z E)) ∧ Below w.heap.size w w' := by
  have hbx : Below w.heap.size w (w.alloc (.cells #[.int .i64 z, .slice pE nE cE, .slice pW nW cW, .int .i64 fz, .bool dn] 31)) := (Below.refl _ _).alloc (Nat.le_refl _) _
  have HE := Lib.hid (h.below hbx); have HN := Lib.hid hn; have HBX := Lib.hid hbx
  clear h hn hbx
  obtain ⟨W0, hW0⟩ : ∃ W0, W0 = (w.alloc (.cells #[.int .i64 z, .slice pE nE cE, .slice pW nW cW, .int .i64 fz, .bool dn] 31)) := ⟨_, rfl⟩
  go_enter Try.func40, Try.ntmps40
  go_wp2_with fail
  go_quiet (fail)
  go_wp2_with fail
  rw [← hW0] at HE HBX ⊢
  have HW0 := Lib.hid hW0
  clear hW0
  go_loopw [3, 4, 6, 7, 13] (fun a l _ _ i wr => ∃ (k : Nat) (s : ByteArray) (m : Int), k ≤ nE ∧ i = .int .i64 k ∧ a = .string s ∧ l = .int .i64 m ∧ 0 ≤ m ∧ m ≤ 16384 ∧ exR ⟨#[]⟩ z E = exR s m (E.drop k) ∧ Below W0.heap.size W0 wr) (fun _ _ _ _ i _ => nE - (intOf i).toNat)
  case atStart => exact ⟨0, ⟨#[]⟩, z, by omega, rfl, rfl, rfl, z0, z1, rfl, below_drewN (Below.refl _ _) _⟩
  case round =>
    obtain ⟨k, s, m, hk, rfl, rfl, rfl, m0, m1, hx, hbl⟩ := hrel
    have hbW := hbl.size
    by_cases hlt : k < nE
    · obtain ⟨g, o, rfl, hg, d0, d1, hz1, hz2⟩ := (HE.out.below hbl) k (by rw [← HN.out]; exact hlt)
      have hd := drop_ext E k (by rw [← HN.out]; exact hlt)
      obtain ⟨x, hxx⟩ : ∃ x, x = (E.getD k default).1 := ⟨_, rfl⟩
      obtain ⟨y, hy⟩ : ∃ y, y = (E.getD k default).2 := ⟨_, rfl⟩
      have hxy : E.getD k default = (x, y) := by rw [hxx, hy]
      rw [← hxx] at d0 hz1; rw [← hy] at d1 hz2
      rw [hxy] at hd
      rw [hd] at hx
      have hx2 : exR ⟨#[]⟩ z E = ((named x && nlt s x) && ((decide (1 ≤ many y) && decide ((many y : Int) ≤ m)) && decide (y.size % 64 = 0)) && exR x (m - many y) (E.drop (k + 1))) := by rw [hx]; rfl
      have HX := Lib.hid hx2
      have hB1 : Below W0.heap.size W0 (wr.alloc (.cells #[.string x, .string y] 86)) := hbl.alloc hbW _
      have HB1 := Lib.hid hB1; have HBL := Lib.hid hbl
      have hle := leq_nlt x s
      clear hx hx2 hd hxy hxx hy hB1 hbl
      cases c1 : named x with
      | false =>
        have F : Hid (false = exR ⟨#[]⟩ z E) := Lib.hid (by rw [HX.out, c1]; rfl)
        have C1 := Lib.hid c1
        clear c1 hle
        go_wp2_with fail
        refine (isName_any x _ (by omega)).mono ?_
        rw [C1.out]
        rintro e w1 ⟨rfl, rfl⟩
        go_wp2_with fail
        go_ret
        exact ⟨ret_bool F.out, HBX.out.trans (HB1.out.mono HBX.out.size)⟩
      | true =>
      have C1 := Lib.hid c1
      cases c2 : nlt s x with
      | false =>
        have F : Hid (false = exR ⟨#[]⟩ z E) := Lib.hid (by rw [HX.out, c1, c2]; rfl)
        rw [c2] at hle
        clear c1 c2
        go_wp2_with fail
        refine (isName_any x _ (by omega)).mono ?_
        rw [C1.out]
        rintro e w1 ⟨rfl, rfl⟩
        go_wp2_with fail
        go_ret
        exact ⟨ret_bool F.out, HBX.out.trans (HB1.out.mono HBX.out.size)⟩
      | true =>
      have C2 := Lib.hid c2
      rw [c2] at hle
      obtain ⟨q, hq⟩ : ∃ q, q = many y := ⟨_, rfl⟩
      have hqs : q ≤ y.size := by rw [hq]; exact Nat.div_le_self _ _
      have hX2 : exR ⟨#[]⟩ z E = (((decide (1 ≤ q) && decide ((q : Int) ≤ m)) && decide (y.size % 64 = 0)) && exR x (m - q) (E.drop (k + 1))) := by rw [HX.out, c1, c2, hq]; rfl
      have HX2 := Lib.hid hX2; have HQ := Lib.hid hq
      have r1 : (y.size : Int) % 64 = ((y.size % 64 : Nat) : Int) := by simp
      have r2 : (y.size : Int).tmod 64 = ((y.size % 64 : Nat) : Int) := by rw [Int.tmod_eq_emod_of_nonneg (by omega)]; simp
      obtain ⟨r, hr⟩ : ∃ r, r = y.size % 64 := ⟨_, rfl⟩
      rw [← hr] at r1 r2
      have hX3 : exR ⟨#[]⟩ z E = (((decide (1 ≤ q) && decide ((q : Int) ≤ m)) && decide (r = 0)) && exR x (m - q) (E.drop (k + 1))) := by rw [HX2.out, hr]
      have HX3 := Lib.hid hX3
      clear c1 c2 hX2 hX3 hq hr HX HX2
      go_wp2_with fail
      refine (isName_any x _ (by omega)).mono ?_
      rw [C1.out]
      rintro e w1 ⟨rfl, rfl⟩
      go_wp2_with fail
      refine (sectorsOf_any x y _ (by omega)).mono ?_
      rw [← HQ.out]
      rintro e w2 ⟨rfl, b2⟩
      have HB2 := Lib.hid (HB1.out.trans (b2.mono (by have := HB1.out.size; exact this)))
      have hbx2 := (Boxed.new wr #[.string x, .string y] 86).below b2
      have u0 : w2.cell? ⟨wr.heap.size, 0, none⟩ = some (.string x) := hbx2.cell 0 (by simp)
      have u1 : w2.cell? ⟨wr.heap.size, 1, none⟩ = some (.string y) := hbx2.cell 1 (by simp)
      clear b2 hbx2 hle
      by_cases c3 : 1 ≤ q
      case neg =>
        have F : Hid (false = exR ⟨#[]⟩ z E) := Lib.hid (by rw [HX3.out, decide_eq_false c3]; rfl)
        have t3 : decide ((q : Int) < 1) = true := decide_eq_true (by omega)
        clear c3
        go_wp2_with fail
        go_ret
        exact ⟨ret_bool F.out, HBX.out.trans (HB2.out.mono HBX.out.size)⟩
      have t3 : decide ((q : Int) < 1) = false := decide_eq_false (by omega)
      by_cases c4 : (q : Int) ≤ m
      case neg =>
        have F : Hid (false = exR ⟨#[]⟩ z E) := Lib.hid (by rw [HX3.out, decide_eq_false c4]; simp)
        have t4 : decide (m < (q : Int)) = true := decide_eq_true (by omega)
        clear c4
        go_wp2_with fail
        go_ret
        exact ⟨ret_bool F.out, HBX.out.trans (HB2.out.mono HBX.out.size)⟩
      have t4 : decide (m < (q : Int)) = false := decide_eq_false (by omega)
      by_cases c5 : r = 0
      case neg =>
        have F : Hid (false = exR ⟨#[]⟩ z E) := Lib.hid (by rw [HX3.out, decide_eq_false c5]; simp)
        have t5 : ((r : Int) != 0) = true := by rw [bne_iff_ne]; omega
        clear c5
        go_wp2_with fail
        go_ret
        exact ⟨ret_bool F.out, HBX.out.trans (HB2.out.mono HBX.out.size)⟩
      have t5 : ((r : Int) != 0) = false := by rw [bne_eq_false_iff_eq]; omega
      have HX4 : Hid (exR ⟨#[]⟩ z E = exR x (m - q) (E.drop (k + 1))) := Lib.hid (by rw [HX3.out, decide_eq_true c3, decide_eq_true c4, decide_eq_true c5]; simp)
      have hmq : 0 ≤ m - q := by omega
      have hmq2 : m - q ≤ 16384 := by omega
      clear c5
      go_wp2_with fail
      go_roundw
      case rel => exact ⟨k + 1, x, m - q, by omega, by go_num, rfl, rfl, hmq, hmq2, HX4.out, HB2.out⟩
      case measure => simp [intOf]; omega
    · obtain rfl : k = nE := by omega
      have F : Hid (true = exR ⟨#[]⟩ z E) := Lib.hid (by rw [hx, List.drop_eq_nil_of_le (by rw [← HN.out]; exact Nat.le_refl _)]; rfl)
      have HBL := Lib.hid hbl
      clear hx hbl
      go_wp2_with fail
      go_ret
      exact ⟨ret_bool F.out, HBX.out.trans (HBL.out.mono HBX.out.size)⟩
end Go.Proofs.Ytgpheofdeflhdaa.Dk
