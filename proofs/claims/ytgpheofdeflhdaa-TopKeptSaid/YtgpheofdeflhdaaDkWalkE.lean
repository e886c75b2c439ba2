/- The walks of room, find, Room, Sectors, Make. -/
import Derived.Test.YtgpheofdeflhdaaDkWalkD
namespace Go.Proofs.Ytgpheofdeflhdaa.Dk
open Go.RowKit Go.Op

/-- how many sectors all have -/
def sumN : List Ext → Nat
  | [] => 0
  | x :: r => many x.2 + sumN r
theorem exR_sum : ∀ {a : ByteArray} {l : Int} {E : List Ext}, 0 ≤ l → exR a l E = true → (sumN E : Int) ≤ l
  | _, _, [], hl, _ => by simpa [sumN] using hl
  | a, l, x :: r, hl, h => by
    simp only [exR, Bool.and_eq_true, decide_eq_true_eq] at h
    have := exR_sum (by omega) h.2
    simp only [sumN]; omega

set_option maxHeartbeats 4000000 in
set_option maxRecDepth 100000 in
theorem room_any (z : Int) (pE pW : Option Addr) (nE cE nW cW : Nat) (fz : Int) (dn : Bool) (E : List Ext) (w : World) (hn : nE = E.length) (h : ExtAt w pE E) (hE : nE ≤ 1000000000) (z1 : z ≤ 16384) (hR : (sumN E : Int) ≤ z) :
    Calls Try.prog 44 #[.agg #[.int .i64 z, .slice pE nE cE, .slice pW nW cW, .int .i64 fz, .bool dn]] w fun e w' => e = .returned (.int .i64 (z - sumN E)) ∧ Below w.heap.size w w' := by
  have hbx : Below w.heap.size w (w.alloc (.cells #[.int .i64 z, .slice pE nE cE, .slice pW nW cW, .int .i64 fz, .bool dn] 31)) := (Below.refl _ _).alloc (Nat.le_refl _) _
  have HE := Lib.hid (h.below hbx); have HN := Lib.hid hn; have HBX := Lib.hid hbx
  clear h hn hbx
  obtain ⟨W0, hW0⟩ : ∃ W0, W0 = (w.alloc (.cells #[.int .i64 z, .slice pE nE cE, .slice pW nW cW, .int .i64 fz, .bool dn] 31)) := ⟨_, rfl⟩
  go_enter Try.func44, Try.ntmps44
  go_wp2_with fail
  rw [← hW0] at HE HBX ⊢
  have HW0 := Lib.hid hW0
  clear hW0
  go_loopw [3, 5, 11] (fun l _ i wr => ∃ (k : Nat) (m : Int), k ≤ nE ∧ i = .int .i64 k ∧ l = .int .i64 m ∧ m ≤ 16384 ∧ (sumN (E.drop k) : Int) ≤ m ∧ m - sumN (E.drop k) = z - sumN E ∧ Below W0.heap.size W0 wr) (fun _ _ i _ => nE - (intOf i).toNat)
  case atStart => exact ⟨0, z, by omega, rfl, rfl, z1, hR, rfl, Below.refl _ _⟩
  case round =>
    obtain ⟨k, m, hk, rfl, rfl, m1, hx, hs, hbl⟩ := hrel
    have hbW := hbl.size
    by_cases hlt : k < nE
    · obtain ⟨g, o, rfl, hg, d0, d1, hz1, hz2⟩ := (HE.out.below hbl) k (by rw [← HN.out]; exact hlt)
      have hd := drop_ext E k (by rw [← HN.out]; exact hlt)
      obtain ⟨x, hxx⟩ : ∃ x, x = (E.getD k default).1 := ⟨_, rfl⟩
      obtain ⟨y, hy⟩ : ∃ y, y = (E.getD k default).2 := ⟨_, rfl⟩
      have hxy : E.getD k default = (x, y) := by rw [hxx, hy]
      rw [← hxx] at d0 hz1; rw [← hy] at d1 hz2
      rw [hxy] at hd
      obtain ⟨q, hq⟩ : ∃ q, q = many y := ⟨_, rfl⟩
      have hsd : sumN (E.drop k) = q + sumN (E.drop (k + 1)) := by rw [hd, hq]; rfl
      rw [hsd] at hx hs
      obtain ⟨T, hT⟩ : ∃ T, T = sumN (E.drop (k + 1)) := ⟨_, rfl⟩
      rw [← hT] at hx hs
      have HQ := Lib.hid hq; have HT := Lib.hid hT; have HS := Lib.hid hs
      have hqm : (q : Int) ≤ m := by omega
      have HX := Lib.hid hx
      have hq2 : q ≤ y.size := by rw [hq]; exact Nat.div_le_self _ _
      have HB1 := Lib.hid (hbl.alloc hbW (.cells #[.string x, .string y] 86))
      clear hsd hd hxy hxx hy hq hT hs hx hbl
      go_wp2_with fail
      refine (sectorsOf_any x y _ (by omega)).mono ?_
      rw [← HQ.out]
      rintro e w2 ⟨rfl, b2⟩
      have HB2 := Lib.hid (HB1.out.trans (b2.mono (by have := HB1.out.size; exact this)))
      clear b2
      have hmq : 0 ≤ m - q := by omega
      have hmq2 : m - q ≤ 16384 := by omega
      go_wp2_with fail
      go_roundw
      case rel => exact ⟨k + 1, m - q, by omega, by go_num, rfl, hmq2, by rw [← HT.out]; have := HX.out; omega, by rw [← HT.out]; have := HS.out; omega, HB2.out⟩
      case measure => simp [intOf]; omega
    · obtain rfl : k = nE := by omega
      have hd : E.drop k = [] := List.drop_eq_nil_of_le (by rw [← HN.out]; exact Nat.le_refl _)
      rw [hd] at hs
      have F : Hid (m = z - sumN E) := Lib.hid (by rw [← hs]; simp [sumN])
      have HBL := Lib.hid hbl
      clear hx hbl hs hd
      go_wp2_with fail
      go_ret
      exact ⟨ret_int F.out, HBX.out.trans (HBL.out.mono HBX.out.size)⟩

def findE (E : List Ext) (b : ByteArray) (c : Int) : Int := if isAt E b = true then (if decide (0 ≤ c) && decide (c < (lookN E b : Nat)) then 0 else 1) else 3
def findA (E : List Ext) (b : ByteArray) (c : Int) : Int := if findE E b c = 0 then (pos E b : Nat) else 0
theorem ret_ii {a b : Int} {c d : Int} (h : a = b) (k : c = d) : Ending.returned (.tuple #[.int .i64 a, .int .i64 c]) = .returned (.tuple #[.int .i64 b, .int .i64 d]) := by rw [h, k]

theorem ready_good {z : Int} {E : List Ext} {L : List Wr} {fz : Int} {dn : Bool} (h : readyE z E L fz dn = 0) : chkB z E L fz = true ∧ dn = false := by
  unfold readyE at h
  split at h
  · rename_i hc
    refine ⟨hc, ?_⟩
    cases dn with
    | false => rfl
    | true => simp at h
  · simp at h

def roomA (z : Int) (E : List Ext) (L : List Wr) (fz : Int) (dn : Bool) : Int := if readyE z E L fz dn = 0 then z - sumN E else 0
end Go.Proofs.Ytgpheofdeflhdaa.Dk
