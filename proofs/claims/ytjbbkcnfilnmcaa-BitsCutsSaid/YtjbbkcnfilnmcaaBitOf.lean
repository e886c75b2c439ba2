/- The walk of the document's Of: bools are packed. -/
import Derived.Test.YtjbbkcnfilnmcaaBitAll
import Derived.Test.YtjbbkcnfilnmcaaBytesRow
namespace Go.Proofs.Ytjbbkcnfilnmcaa.Bt
open Go.RowKit

/-- a byte with one more bit -/
theorem byte_add (x : UInt8) (t : Nat) (ht : t < 8) (hx : x.toNat.testBit t = false) : x.toNat + 2 ^ t < 256 ∧ ∀ j, (x.toNat + 2 ^ t).testBit j = (x.toNat.testBit j || decide (j = t)) := by
  have key : ∀ a : Fin 256, ∀ t : Fin 8, (a : Nat).testBit t = false → (a : Nat) + 2 ^ (t : Nat) < 256 ∧ (a : Nat) + 2 ^ (t : Nat) = (a : Nat) ||| 2 ^ (t : Nat) := by decide +kernel
  have h := key ⟨x.toNat, x.toNat_lt⟩ ⟨t, ht⟩ hx
  refine ⟨h.1, fun j => ?_⟩
  have e : x.toNat + 2 ^ t = x.toNat ||| 2 ^ t := h.2
  rw [e, Nat.testBit_or, Nat.testBit_two_pow]
  congr 1
  simp [eq_comm]
/-- the bytes so far: the first k bits are there -/
def Part (L : List UInt8) (X : List Bool) (k : Nat) : Prop := L.length = (X.length + 7) / 8 ∧ ∀ i, bitAt L i = (X.take k).getD i false
theorem part_zero (X : List Bool) : Part (List.replicate ((X.length + 7) / 8) 0) X 0 := by
  refine ⟨by simp, fun i => ?_⟩
  have : (List.replicate ((X.length + 7) / 8) (0 : UInt8)).getD (i / 8) 0 = 0 := by
    simp only [List.getD_eq_getElem?_getD, List.getElem?_replicate]
    split <;> rfl
  unfold bitAt
  rw [this]
  simp
theorem take_getD (X : List Bool) (k i : Nat) : (X.take k).getD i false = if i < k then X.getD i false else false := by
  simp only [List.getD_eq_getElem?_getD, List.getElem?_take]
  split <;> rfl
theorem part_skip {L : List UInt8} {X : List Bool} {k : Nat} (h : Part L X k) (hx : X.getD k false = false) : Part L X (k + 1) := by
  refine ⟨h.1, fun i => ?_⟩
  rw [h.2 i, take_getD, take_getD]
  by_cases hi : i < k
  · rw [if_pos hi, if_pos (by omega)]
  · rw [if_neg hi]
    by_cases hj : i = k
    · subst hj; rw [hx]; simp
    · rw [if_neg (by omega)]
theorem part_free {L : List UInt8} {X : List Bool} {k : Nat} (h : Part L X k) : (L.getD (k / 8) 0).toNat.testBit (7 - k % 8) = false := by
  have e := h.2 k
  rw [take_getD, if_neg (by omega)] at e
  exact e
theorem part_set {L : List UInt8} {X : List Bool} {k : Nat} (h : Part L X k) (hk : k < X.length) (hx : X.getD k false = true) : Part (L.set (k / 8) (UInt8.ofNat ((L.getD (k / 8) 0).toNat + 2 ^ (7 - k % 8)))) X (k + 1) := by
  have b := byte_add _ _ (by omega) (part_free h)
  refine ⟨by rw [List.length_set]; exact h.1, fun i => ?_⟩
  have hl := h.1
  have e := h.2 i
  rw [take_getD] at e ⊢
  unfold bitAt at e ⊢
  rw [Row.getD_set _ _ _ _ (by omega)]
  by_cases hs : k / 8 = i / 8
  · rw [if_pos hs, UInt8.toNat_ofNat_of_lt' b.1, b.2, hs, e]
    by_cases hi : i < k
    · have ne : ¬ (7 - i % 8 = 7 - k % 8) := by omega
      rw [if_pos hi, if_pos (by omega), decide_eq_false ne]; simp
    · by_cases hj : i = k
      · subst hj; rw [if_neg (Nat.lt_irrefl _), if_pos (Nat.lt_succ_self _), hx]; simp
      · have ne : ¬ (7 - i % 8 = 7 - k % 8) := by omega
        rw [if_neg hi, if_neg (by omega), decide_eq_false ne]; rfl
  · rw [if_neg hs, e]
    by_cases hi : i < k
    · rw [if_pos hi, if_pos (by omega)]
    · rw [if_neg hi, if_neg (by omega)]
theorem part_done {L : List UInt8} {X : List Bool} (h : Part L X X.length) : Packs L X := by
  refine ⟨h.1, fun i => ?_⟩
  rw [h.2 i, List.take_length]

/-- a slice of bools, as it is read -/
def BoolsAt (w : World) (p : Option Addr) (X : List Bool) : Prop := ∀ i, i < X.length → ∃ g o, p = some ⟨g, o, none⟩ ∧ g < w.heap.size ∧ w.cell? ⟨g, o + i, none⟩ = some (.bool (X.getD i false))
theorem BoolsAt.below {w w' : World} {p : Option Addr} {X : List Bool} (h : BoolsAt w p X) (hb : Below w.heap.size w w') : BoolsAt w' p X := fun i hi => by
  obtain ⟨g, o, e, hg, c⟩ := h i hi
  exact ⟨g, o, e, Nat.lt_of_lt_of_le hg hb.size, by rw [hb.cell hg]; exact c⟩
theorem made_bytes {w : World} {B g n : Nat} (h : w.ownsRow B 5 1 (.slice (some ⟨g, 0, none⟩) n n) n (madeCells #[Value.int .u8 0] n).toList) : Row.Bytes w g (List.replicate n 0) := by
  have hc : ∀ j, j < n → w.cell? ⟨g, j, none⟩ = some (.int .u8 0) := by
    intro j hj
    rw [h.cellAt j (by omega), toList_madeCells_one, List.getElem?_replicate, if_pos (by omega)]
  rcases h.2 with ⟨h0, _⟩ | ⟨g', cap, cur, hv, hb, hh, _⟩
  · cases h0
  · cases hv
    refine ⟨(Array.getElem?_eq_some_iff.1 hh).1, fun j hj => ?_, fun j hj => ?_⟩
    · rw [List.length_replicate] at hj
      rw [hc j hj]
      simp [List.getD_eq_getElem?_getD, hj]
    · simp [World.frozen?, hh]

theorem Box.other {w : World} {g : Nat} {s : ByteArray} {n : Int} (h : Box w g s n) (b i : Nat) (v : Value) (hb : b ≠ g) : Box (w.setCell ⟨b, i, none⟩ v) g s n := by
  have e : ∀ j, (⟨b, i, none⟩ : Addr) ≠ ⟨g, j, none⟩ := fun j h => by injection h with h; exact hb h
  exact ⟨by simpa using h.lt, by rw [World.cell?_setCell_other _ _ _ _ (e 0)]; exact h.c0, by rw [World.cell?_setCell_other _ _ _ _ (e 1)]; exact h.c1, by rw [World.frozen?_setCell]; exact h.f0, by rw [World.frozen?_setCell]; exact h.f1⟩
theorem Box.grown {w w' : World} {g : Nat} {s : ByteArray} {n : Int} (h : Box w g s n) (hg : w.grownBy w' none) : Box w' g s n := h.below ((Below.refl _ w).grown hg (Nat.le_refl _) (by simp))

set_option maxHeartbeats 4000000 in
theorem of_any (p : Option Addr) (cap : Nat) (X : List Bool) (w : World) (hl : BoolsAt w p X) (hn : X.length ≤ 2000000) :
    Calls Try.prog 42 #[.slice p X.length cap] w fun e w' => e = .returned (.agg #[.string (packS X), .int .i64 X.length]) ∧ Below w.heap.size w w' := by
  obtain ⟨i0, hi, hz0, hz1, hz2⟩ := info_parts info_u8
  obtain ⟨n, hnn⟩ : ∃ n, n = X.length := ⟨_, rfl⟩
  have HL := Lib.hid hl
  clear hl
  rw [← hnn] at hn ⊢
  obtain ⟨m, hm⟩ : ∃ m, m = (n + 7) / 8 := ⟨_, rfl⟩
  have q1 : ((n : Int) + 7).tdiv 8 = (m : Int) := by rw [Int.tdiv_eq_ediv_of_nonneg (by omega)]; omega
  have hm9 : m ≤ 260000 := by omega
  have HM := Lib.hid hm; have HN := Lib.hid hnn
  clear hm hnn
  go_enter Try.func42, Try.ntmps42
  go_wp2_with (at_make; refine wpList_make_full _ rfl _ _ 63 rfl w.heap.size 5 i0 (.int .u8 0) 1 Try.underlying63 hi hz0 hz1 .i64 .i64 ↑m ↑m m rfl rfl rfl rfl ?c1 ?c2 ?c3 ?_)
  case c1 => rw [hz2]; omega
  case c2 => unfold maxLen; omega
  case c3 => simp
  intro w1 hown hgr
  have hb1 : Below w.heap.size w w1 := ((Below.refl _ w).alloc (Nat.le_refl _) _).grown hgr (by simp) (by simp)
  have hrow := made_bytes hown
  have hbox := (Box.new w ⟨#[]⟩ 0).grown hgr
  have hl1 := HL.out.below hb1
  obtain ⟨G, hG⟩ : ∃ G, G = w.heap.size + 1 := ⟨_, rfl⟩
  have hGw : w.heap.size ≤ G := by omega
  rw [← hG] at hrow ⊢
  have HG := Lib.hid hG; have H1 := Lib.hid hb1; have HR := Lib.hid hrow; have HL1 := Lib.hid hl1; have BX := Lib.hid hbox
  clear hbox hown hgr hG hb1 hrow hl1
  go_wp2_with fail
  go_loopw [13, 4, 5] (fun j _ _ wr => ∃ (k : Nat) (L : List UInt8), k ≤ n ∧ j = .int .i64 k ∧ Part L X k ∧ Row.Bytes wr G L ∧ Below w.heap.size w wr ∧ Box wr w.heap.size ⟨#[]⟩ 0) (fun j _ _ _ => n - (intOf j).toNat)
  case atStart => exact ⟨0, _, by omega, rfl, by rw [HM.out, HN.out]; exact part_zero X, HR.out, H1.out, BX.out⟩
  case round =>
    obtain ⟨k, L, hk, rfl, hp, hr, hb, hbox⟩ := hrel
    by_cases hlt : k < n
    · obtain ⟨g, o, rfl, hg, hc⟩ := (HL.out.below hb) k (by rw [← HN.out]; exact hlt)
      have HP := Lib.hid hp; have HB := Lib.hid hb; have HRR := Lib.hid hr; have BX2 := Lib.hid hbox
      clear hp hb hr hbox
      cases hx : X.getD k false with
      | false =>
        rw [hx] at hc
        have HX := Lib.hid hx; clear hx
        go_wp2_with fail
        exact ⟨⟨k + 1, L, by omega, by go_num, part_skip HP.out HX.out, HRR.out, HB.out, BX2.out⟩, by simp [intOf]; omega⟩
      | true =>
        rw [hx] at hc
        have HX := Lib.hid hx; clear hx
        obtain ⟨j, hj⟩ : ∃ j, j = k / 8 := ⟨_, rfl⟩
        obtain ⟨t, ht⟩ : ∃ t, t = 7 - k % 8 := ⟨_, rfl⟩
        have hLm : L.length = m := by rw [HP.out.1, HM.out, HN.out]
        have hjm : j < m := by have := HM.out; omega
        have e1 : (k : Int) / 8 = (j : Int) := by omega
        have e2 : (7 : Int) - (k : Int) % 8 = (t : Int) := by omega
        have e3 : (j : Int) < (m : Int) := by omega
        have e4 : (0 : Int) ≤ (j : Int) := by omega
        have ht8 : t < 8 := by omega
        have hadd := byte_add (L.getD j 0) t ht8 (by rw [hj, ht]; exact part_free HP.out)
        obtain ⟨x, hx⟩ : ∃ x, x = (L.getD j 0).toNat := ⟨_, rfl⟩
        have hcx := HRR.out.cell j (by omega)
        have hfx := HRR.out.free j (by omega)
        rw [← hx] at hcx hadd
        have HJ := Lib.hid hj; have HT := Lib.hid ht; have HX2 := Lib.hid hx; have HA := Lib.hid hadd.1
        clear hj ht hx hadd
        go_wp2_with fail
        have ex : ((x : Int) + 2 ^ t) % 256 = ((UInt8.ofNat (x + 2 ^ t)).toNat : Int) := by
          have key : ∀ y : Nat, y < 256 → (y : Int) % 256 = ((UInt8.ofNat y).toNat : Int) := fun y hy => by rw [UInt8.toNat_ofNat_of_lt' hy]; omega
          have : ((x : Int) + 2 ^ t) = ((x + 2 ^ t : Nat) : Int) := by simp
          rw [this]; exact key _ HA.out
        rw [ex]
        have hset := HRR.out.set j (by omega) (UInt8.ofNat (x + 2 ^ t))
        have hpart := part_set HP.out (by rw [← HN.out]; exact hlt) HX.out
        rw [← HJ.out, ← HT.out, ← HX2.out] at hpart
        exact ⟨⟨k + 1, _, by omega, by go_num, hpart, hset, HB.out.setCell (p := ⟨G, j, none⟩) hGw _, BX2.out.other G j _ (by have := HG.out; omega)⟩, by simp [intOf]; omega⟩
    · obtain rfl : k = n := by omega
      rw [HN.out] at hp
      have hdone := packS_of (part_done hp)
      have hLm : L.length = m := by rw [hp.1, HM.out, HN.out]
      have hbk := Row.run_back hr m
      rw [hLm, ← hdone] at hbk
      have hB2 := (hb.setCell (p := ⟨w.heap.size, 0, none⟩) (Nat.le_refl _) (.string (packS X))).setCell (p := ⟨w.heap.size, 1, none⟩) (Nat.le_refl _) (.int .i64 k)
      have c0 := hbox.c0; have c1 := hbox.c1; have f0 := hbox.f0; have f1 := hbox.f1
      have hs2 := hbox.set (packS X) (k : Int)
      have z0 := Lib.hid hs2.c0; have z1 := Lib.hid hs2.c1
      have HB2 := Lib.hid hB2
      clear hs2 hB2 hp hr hb hbox hdone hLm
      go_wp2_with fail
      refine bodyPost_ret (v := .agg #[.string (packS X), .int .i64 k]) (by simp [results, Try.results42, go_sem, z0.out, z1.out]) rfl ⟨rfl, HB2.out⟩
end Go.Proofs.Ytjbbkcnfilnmcaa.Bt
