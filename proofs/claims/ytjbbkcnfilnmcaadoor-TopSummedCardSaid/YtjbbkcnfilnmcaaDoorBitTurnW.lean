/- The walk of turn (bits at work). -/
import Derived.Test.YtjbbkcnfilnmcaaDoorBitGather
namespace Go.Proofs.YtjbbkcnfilnmcaaDoor.Bt
open Go.RowKit

/-- one bit turned -/
def flip (X : List Bool) (i : Nat) : List Bool := X.set i (!X.getD i false)
theorem flip_length (X : List Bool) (i : Nat) : (flip X i).length = X.length := by simp [flip]
theorem flip_getD (X : List Bool) (i j : Nat) (hi : i < X.length) : (flip X i).getD j false = if i = j then !X.getD i false else X.getD j false := by
  unfold flip
  simp only [List.getD_eq_getElem?_getD, List.getElem?_set]
  by_cases h : i = j
  · subst h; simp [hi]
  · simp [h]
theorem xor_lt8 (c : UInt8) (t : Nat) (ht : t < 8) : c.toNat ^^^ 2 ^ t < 256 := by
  have h : 2 ^ t < 2 ^ 8 := Nat.pow_lt_pow_right (by decide) ht
  exact Nat.xor_lt_two_pow (n := 8) c.toNat_lt h
theorem flip_packs {L : List UInt8} {X : List Bool} (h : Packs L X) (i : Nat) (hi : i < X.length) : Packs (L.set (i / 8) (UInt8.ofNat ((L.getD (i / 8) 0).toNat ^^^ 2 ^ (7 - i % 8)))) (flip X i) := by
  have hl := h.1
  have hx := xor_lt8 (L.getD (i / 8) 0) (7 - i % 8) (by omega)
  refine ⟨by rw [List.length_set, flip_length]; exact hl, fun k => ?_⟩
  rw [flip_getD X i k hi]
  have e := h.2 k
  unfold bitAt at e ⊢
  rw [getD_set8 _ _ _ _ (by omega)]
  by_cases hs : i / 8 = k / 8
  · rw [if_pos hs, UInt8.toNat_ofNat_of_lt' hx, Nat.testBit_xor, hs, e, Nat.testBit_two_pow]
    by_cases hk : i = k
    · subst hk; rw [if_pos rfl, decide_eq_true rfl]; simp
    · have ne : ¬ (7 - i % 8 = 7 - k % 8) := by omega
      rw [if_neg hk, decide_eq_false ne]; simp
  · rw [if_neg hs, e, if_neg (by intro e; apply hs; rw [e])]
theorem St.turned {w : World} {B p : Nat} {L : List UInt8} {N : Int} {s0 : ByteArray} {g cap : Nat} (h : St w B p L N s0 (.slice (some ⟨g, 0, none⟩) L.length cap)) (j : Nat) (x : UInt8) :
    St (w.setCell ⟨g, j, none⟩ (.int .u8 (x.toNat : Int))) B p (L.set j x) N s0 (.slice (some ⟨g, 0, none⟩) L.length cap) := by
  have hne : p ≠ g := by
    intro e; subst e
    exact row_ne h.row h.block rfl
  have hr := (h.row.stored j (.int .u8 (x.toNat : Int))).1
  have hset : (Lib.byteCells L).set j (.int .u8 (x.toNat : Int)) = Lib.byteCells (L.set j x) := by simp [Lib.byteCells, List.map_set]
  rw [hset] at hr
  refine ⟨h.own, by rw [heap_setCell_other _ _ _ _ hne]; exact h.block, ?_, by simp⟩
  rw [List.length_set]; exact hr

set_option maxHeartbeats 4000000 in
theorem turn_any (p i : Nat) (L : List UInt8) (X : List Bool) (N : Int) (w : World) (B : Nat) (hW : Work w B p L N) (hX : Packs L X) (hi : i < X.length) (hn : X.length ≤ 1048576) :
    Calls Tryd.prog 18 #[.pointer (some ⟨p, 0, none⟩), .int .i64 i] w fun e w' => e = .returned (.tuple #[]) ∧ (∃ L', Work w' B p L' N ∧ Packs L' (flip X i)) ∧ Below B w w' := by
  obtain ⟨own, s0, v, hblk, hrow, hnn⟩ := hW
  have st : St w B p L N s0 v := ⟨own, hblk, hrow, hnn⟩
  obtain ⟨g, cap, rfl, hcap⟩ := st.shape
  obtain ⟨j, hj⟩ : ∃ j, j = i / 8 := ⟨_, rfl⟩
  obtain ⟨t, ht⟩ : ∃ t, t = 7 - i % 8 := ⟨_, rfl⟩
  have hLl := hX.1
  have hjl : j < L.length := by omega
  have c2 := st.c2
  have hb := st.byte j hjl
  have e1 : (i : Int) / 8 = (j : Int) := by omega
  have e2 : (7 : Int) - (i : Int) % 8 = (t : Int) := by omega
  have e3 : (j : Int) < (L.length : Int) := by omega
  have e4 : (0 : Int) ≤ (j : Int) := by omega
  have ht8 : t < 8 := by omega
  have hxl := xor_lt8 (L.getD j 0) t ht8
  have hpk := flip_packs hX i hi
  rw [← hj, ← ht] at hpk
  have hgB : B ≤ g := row_ge hrow g rfl
  obtain ⟨c, hc⟩ : ∃ c, c = L.getD j 0 := ⟨_, rfl⟩
  rw [← hc] at hb hxl hpk
  have hb1 := hb.1; have hb2 := hb.2
  have hp2 : (2 : Nat) ^ t < 256 := by
    have : 2 ^ t < 2 ^ 8 := Nat.pow_lt_pow_right (by decide) ht8
    simpa using this
  have hx : bits .xor .u8 (c.toNat : Int) ((2 : Int) ^ t % 256) = ((UInt8.ofNat (c.toNat ^^^ 2 ^ t)).toNat : Int) := by
    rw [UInt8.toNat_ofNat_of_lt' hxl, ← u8_xor_nat _ _ c.toNat_lt hp2]
    congr 1
    have : (2 : Int) ^ t = ((2 ^ t : Nat) : Int) := by simp
    have key : ∀ z : Nat, z < 256 → (z : Int) % 256 = (z : Int) := fun z hz => by omega
    rw [this]; exact key _ hp2
  have w1' : IntKind.i64.wrap ((7 : Int) - (i : Int) % 8) = (t : Int) := by rw [e2]; exact IntWalk.i64_in _ (by omega)
  have w2' : IntKind.i64.wrap (t : Int) = (t : Int) := IntWalk.i64_in _ (by omega)
  have w3' : IntKind.i64.wrap ((i : Int) / 8) = (j : Int) := by rw [e1]; exact IntWalk.i64_in _ (by omega)
  have w4' : IntKind.i64.wrap (j : Int) = (j : Int) := IntWalk.i64_in _ (by omega)
  have w5' : (i : Int).tdiv 8 = (j : Int) := by rw [Int.tdiv_eq_ediv_of_nonneg (by omega)]; exact e1
  obtain ⟨y, hy⟩ : ∃ y, y = UInt8.ofNat (c.toNat ^^^ 2 ^ t) := ⟨_, rfl⟩
  rw [← hy] at hx hpk
  have ST := Lib.hid st; have PK := Lib.hid hpk
  clear st hpk hy hxl hc hj ht hb hblk hrow hnn hX hp2
  go_enter Tryd.func18, Tryd.ntmps18
  go_wp2_with fail
  go_region
  go_end0
  exact ⟨rfl, ⟨_, ((ST.out.turned j y).drewN 1).work, PK.out⟩, ((Below.refl B w).setCell (p := ⟨g, j, none⟩) hgB _).drew⟩
end Go.Proofs.YtjbbkcnfilnmcaaDoor.Bt
