/- The walks of room, find, Room, Sectors, Make. -/
import Derived.Test.YtgpheofdeflhdaaDkWalkD
namespace Go.Proofs.Ytgpheofdeflhdaa.Dk
open Go.RowKit Go.Op

/-- how many sectors all have -/
def sumN : List Ext → Nat
  | [] => 0
  | x :: r => many x.2 + sumN r
theorem exR_sum : ∀ {a : ByteArray} {l : Int} {E : List Ext}, 0 ≤ l → exR a l E = true → (sumN E : Int) ≤ l
  | _, _, [], hl, _ => by simpa [sumN] using hl
  | a, l, x :: r, hl, h => by
    simp only [exR, Bool.and_eq_true, decide_eq_true_eq] at h
    have := exR_sum (by omega) h.2
    simp only [sumN]; omega

set_option maxHeartbeats 4000000 in
set_option maxRecDepth 100000 in
theorem room_any (z : Int) (pE pW : Option Addr) (nE cE nW cW : Nat) (fz : Int) (dn : Bool) (E : List Ext) (w : World) (hn : nE = E.length) (h : ExtAt w pE E) (hE : nE ≤ 1000000000) (z1 : z ≤ 16384) (hR : (sumN E : Int) ≤ z) :
    Calls Try.prog 44 #[.agg #[.int .i64 z, .slice pE nE cE, .slice pW nW cW, .int .i64 fz, .bool dn]] w fun e w' => e = .returned (.int .i64 (z - sumN E)) ∧ Below w.heap.size w w' := by
  have hbx : Below w.heap.size w (w.alloc (.cells #[.int .i64 z, .slice pE nE cE, .slice pW nW cW, .int .i64 fz, .bool dn] 31)) := (Below.refl _ _).alloc (Nat.le_refl _) _
  have HE := Lib.hid (h.below hbx); have HN := Lib.hid hn; have HBX := Lib.hid hbx
  clear h hn hbx
  obtain ⟨W0, hW0⟩ : ∃ W0, W0 = (w.alloc (.cells #[.int .i64 z, .slice pE nE cE, .slice pW nW cW, .int .i64 fz, .bool dn] 31)) := ⟨_, rfl⟩
  go_enter Try.func44, Try.ntmps44
  go_wp2_with fail
  rw [← hW0] at HE HBX ⊢
  have HW0 := Lib.hid hW0
  clear hW0
  go_loopw [3, 5, 11] (fun l _ i wr => ∃ (k : Nat) (m : Int), k ≤ nE ∧ i = .int .i64 k ∧ l = .int .i64 m ∧ m ≤ 16384 ∧ (sumN (E.drop k) : Int) ≤ m ∧ m - sumN (E.drop k) = z - sumN E ∧ Below W0.heap.size W0 wr) (fun _ _ i _ => nE - (intOf i).toNat)
  case atStart => exact ⟨0, z, by omega, rfl, rfl, z1, hR, rfl, Below.refl _ _⟩
  case round =>
    obtain ⟨k, m, hk, rfl, rfl, m1, hx, hs, hbl⟩ := hrel
    have hbW := hbl.size
    by_cases hlt : k < nE
    · obtain ⟨g, o, rfl, hg, d0, d1, hz1, hz2⟩ := (HE.out.below hbl) k (by rw [← HN.out]; exact hlt)
      have hd := drop_ext E k (by rw [← HN.out]; exact hlt)
      obtain ⟨x, hxx⟩ : ∃ x, x = (E.getD k default).1 := ⟨_, rfl⟩
      obtain ⟨y, hy⟩ : ∃ y, y = (E.getD k default).2 := ⟨_, rfl⟩
      have hxy : E.getD k default = (x, y) := by rw [hxx, hy]
      rw [← hxx] at d0 hz1; rw [← hy] at d1 hz2
      rw [hxy] at hd
      obtain ⟨q, hq⟩ : ∃ q, q = many y := ⟨_, rfl⟩
      have hsd : sumN (E.drop k) = q + sumN (E.drop (k + 1)) := by rw [hd, hq]; rfl
      rw [hsd] at hx hs
      obtain ⟨T, hT⟩ : ∃ T, T = sumN (E.drop (k + 1)) := ⟨_, rfl⟩
      rw [← hT] at hx hs
      have HQ := Lib.hid hq; have HT := Lib.hid hT; have HS := Lib.hid hs
      have hqm : (q : Int) ≤ m := by omega
      have HX := Lib.hid hx
      have hq2 : q ≤ y.size := by rw [hq]; exact Nat.div_le_self _ _
      have HB1 := Lib.hid (hbl.alloc hbW (.cells #[.string x, .string y] 86))
      clear hsd hd hxy hxx hy hq hT hs hx hbl
      go_wp2_with fail
      refine (sectorsOf_any x y _ (by omega)).mono ?_
      rw [← HQ.out]
      rintro e w2 ⟨rfl, b2⟩
      have HB2 := Lib.hid (HB1.out.trans (b2.mono (by have := HB1.out.size; exact this)))
      clear b2
      have hmq : 0 ≤ m - q := by omega
      have hmq2 : m - q ≤ 16384 := by omega
      go_wp2_with fail
      go_roundw
      case rel => exact ⟨k + 1, m - q, by omega, by go_num, rfl, hmq2, by rw [← HT.out]; have := HX.out; omega, by rw [← HT.out]; have := HS.out; omega, HB2.out⟩
      case measure => simp [intOf]; omega
    · obtain rfl : k = nE := by omega
      have hd : E.drop k = [] := List.drop_eq_nil_of_le (by rw [← HN.out]; exact Nat.le_refl _)
      rw [hd] at hs
      have F : Hid (m = z - sumN E) := Lib.hid (by rw [← hs]; simp [sumN])
      have HBL := Lib.hid hbl
      clear hx hbl hs hd
      go_wp2_with fail
      go_ret
      exact ⟨ret_int F.out, HBX.out.trans (HBL.out.mono HBX.out.size)⟩

def findE (E : List Ext) (b : ByteArray) (c : Int) : Int := if isAt E b = true then (if decide (0 ≤ c) && decide (c < (lookN E b : Nat)) then 0 else 1) else 3
def findA (E : List Ext) (b : ByteArray) (c : Int) : Int := if findE E b c = 0 then (pos E b : Nat) else 0
theorem ret_ii {a b : Int} {c d : Int} (h : a = b) (k : c = d) : Ending.returned (.tuple #[.int .i64 a, .int .i64 c]) = .returned (.tuple #[.int .i64 b, .int .i64 d]) := by rw [h, k]

set_option maxHeartbeats 4000000 in
set_option maxRecDepth 100000 in
theorem find_any (z : Int) (pE pW : Option Addr) (nE cE nW cW : Nat) (fz : Int) (dn : Bool) (E : List Ext) (b : ByteArray) (c : Int) (w : World) (hn : nE = E.length) (h : ExtAt w pE E) (hs : Sorted E) (hE : nE ≤ 1000000000) :
    Calls Try.prog 29 #[.agg #[.int .i64 z, .slice pE nE cE, .slice pW nW cW, .int .i64 fz, .bool dn], .string b, .int .i64 c] w fun e w' => e = .returned (.tuple #[.int .i64 (findA E b c), .int .i64 (findE E b c)]) ∧ Below w.heap.size w w' := by
  have hbx : Below w.heap.size w (w.alloc (.cells #[.int .i64 z, .slice pE nE cE, .slice pW nW cW, .int .i64 fz, .bool dn] 31)) := (Below.refl _ _).alloc (Nat.le_refl _) _
  have HE := Lib.hid (h.below hbx); have HS := Lib.hid hs; have HN := Lib.hid hn
  have HB := Lib.hid (Boxed.new w #[.int .i64 z, .slice pE nE cE, .slice pW nW cW, .int .i64 fz, .bool dn] 31)
  clear h hs hn
  cases hi : isAt E b with
  | false =>
    have G : findE E b c = 3 := by unfold findE; rw [if_neg (by rw [hi]; simp)]
    have F : Hid ((0 : Int) = findA E b c ∧ 3 = findE E b c) := Lib.hid ⟨by unfold findA; rw [G]; rfl, G.symm⟩
    have HI := Lib.hid hi
    clear hi G
    go_enter Try.func29, Try.ntmps29
    go_wp2_with fail
    refine (place_any z pE pW nE cE nW cW fz dn E b _ HN.out HE.out HS.out hE).mono ?_
    rw [HI.out]
    rintro e w1 ⟨rfl, b1⟩
    have B := Lib.hid (hbx.trans (b1.mono (by simp)))
    clear b1
    go_wp2_with fail
    go_ret2
    exact ⟨ret_ii F.out.1 F.out.2, B.out⟩
  | true =>
    have hlt := isAt_lt hi
    obtain ⟨k, hk⟩ : ∃ k, k = pos E b := ⟨_, rfl⟩
    have hq0 : many (E.getD k default).2 = lookN E b := by unfold lookN; rw [if_pos hi, hk]
    have G0 : findE E b c = if decide (0 ≤ c) && decide (c < (lookN E b : Nat)) then 0 else 1 := by unfold findE; rw [if_pos hi]
    have HI := Lib.hid hi; have HK := Lib.hid hk
    rw [← hk] at hlt
    have hkn : k < nE := by rw [HN.out]; exact hlt
    obtain ⟨q, hq⟩ : ∃ q, q = lookN E b := ⟨_, rfl⟩
    rw [← hq] at hq0 G0
    have HQ := Lib.hid hq0
    clear hi hk hlt hq hq0
    by_cases c1 : 0 ≤ c
    case neg =>
      rw [decide_eq_false c1] at G0
      have F : Hid ((0 : Int) = findA E b c ∧ 1 = findE E b c) := Lib.hid ⟨by unfold findA; rw [G0]; rfl, by rw [G0]; rfl⟩
      have t2 : decide (c < 0) = true := decide_eq_true (by omega)
      clear c1 G0
      go_enter Try.func29, Try.ntmps29
      go_wp2_with fail
      refine (place_any z pE pW nE cE nW cW fz dn E b _ HN.out HE.out HS.out hE).mono ?_
      rw [HI.out]
      rintro e w1 ⟨rfl, b1⟩
      have B := Lib.hid (hbx.trans (b1.mono (by simp)))
      clear b1
      go_wp2_with fail
      go_ret2
      exact ⟨ret_ii F.out.1 F.out.2, B.out⟩
    have t2 : decide (c < 0) = false := decide_eq_false (by omega)
    by_cases c2 : c < (q : Int)
    case neg =>
      rw [decide_eq_false c2] at G0
      have F : Hid ((0 : Int) = findA E b c ∧ 1 = findE E b c) := Lib.hid ⟨by unfold findA; rw [G0]; simp, by rw [G0]; simp⟩
      have t3 : decide ((q : Int) ≤ c) = true := decide_eq_true (by omega)
      clear c1 c2 G0
      go_enter Try.func29, Try.ntmps29
      go_wp2_with fail
      refine (place_any z pE pW nE cE nW cW fz dn E b _ HN.out HE.out HS.out hE).mono ?_
      rw [HI.out, ← HK.out]
      rintro e w1 ⟨rfl, b1⟩
      have hb := HB.out.below b1
      have q1 : w1.cell? ⟨w.heap.size, 1, none⟩ = some (.slice pE nE cE) := hb.cell 1 (by simp)
      obtain ⟨g, o, rfl, hg, d0, d1, hz1, hz2⟩ := (HE.out.below b1) k (by rw [← HN.out]; exact hkn)
      obtain ⟨x, hx⟩ : ∃ x, x = (E.getD k default).1 := ⟨_, rfl⟩
      obtain ⟨y, hy⟩ : ∃ y, y = (E.getD k default).2 := ⟨_, rfl⟩
      rw [← hx] at d0 hz1; rw [← hy] at d1 hz2 HQ
      have B := Lib.hid (hbx.trans (b1.mono (by simp)))
      have m0 : (0 : Int) ≤ (k : Int) := by omega
      have m1 : (k : Int) < (nE : Int) := by omega
      clear b1 hb hx hy
      go_wp2_with fail
      refine (sectorsOf_any x y _ (by omega)).mono ?_
      rw [HQ.out]
      rintro e w2 ⟨rfl, b2⟩
      have B2 := Lib.hid (B.out.trans (b2.mono B.out.size))
      clear b2
      go_wp2_with fail
      go_ret2
      exact ⟨ret_ii F.out.1 F.out.2, B2.out⟩
    rw [decide_eq_true c1, decide_eq_true c2] at G0
    have F : Hid ((k : Int) = findA E b c ∧ 0 = findE E b c) := Lib.hid ⟨by unfold findA; rw [G0, HK.out]; rfl, by rw [G0]; rfl⟩
    have t3 : decide ((q : Int) ≤ c) = false := decide_eq_false (by omega)
    clear c1 c2 G0
    go_enter Try.func29, Try.ntmps29
    go_wp2_with fail
    refine (place_any z pE pW nE cE nW cW fz dn E b _ HN.out HE.out HS.out hE).mono ?_
    rw [HI.out, ← HK.out]
    rintro e w1 ⟨rfl, b1⟩
    have hb := HB.out.below b1
    have q1 : w1.cell? ⟨w.heap.size, 1, none⟩ = some (.slice pE nE cE) := hb.cell 1 (by simp)
    obtain ⟨g, o, rfl, hg, d0, d1, hz1, hz2⟩ := (HE.out.below b1) k (by rw [← HN.out]; exact hkn)
    obtain ⟨x, hx⟩ : ∃ x, x = (E.getD k default).1 := ⟨_, rfl⟩
    obtain ⟨y, hy⟩ : ∃ y, y = (E.getD k default).2 := ⟨_, rfl⟩
    rw [← hx] at d0 hz1; rw [← hy] at d1 hz2 HQ
    have B := Lib.hid (hbx.trans (b1.mono (by simp)))
    have m0 : (0 : Int) ≤ (k : Int) := by omega
    have m1 : (k : Int) < (nE : Int) := by omega
    clear b1 hb hx hy
    go_wp2_with fail
    refine (sectorsOf_any x y _ (by omega)).mono ?_
    rw [HQ.out]
    rintro e w2 ⟨rfl, b2⟩
    have B2 := Lib.hid (B.out.trans (b2.mono B.out.size))
    clear b2
    go_wp2_with fail
    go_ret2
    exact ⟨ret_ii F.out.1 F.out.2, B2.out⟩

theorem ready_good {z : Int} {E : List Ext} {L : List Wr} {fz : Int} {dn : Bool} (h : readyE z E L fz dn = 0) : chkB z E L fz = true ∧ dn = false := by
  unfold readyE at h
  split at h
  · rename_i hc
    refine ⟨hc, ?_⟩
    cases dn with
    | false => rfl
    | true => simp at h
  · simp at h

def roomA (z : Int) (E : List Ext) (L : List Wr) (fz : Int) (dn : Bool) : Int := if readyE z E L fz dn = 0 then z - sumN E else 0
end Go.Proofs.Ytgpheofdeflhdaa.Dk
