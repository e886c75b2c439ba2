/- BitLong BitBack BitAll BitOf BitPutR -/
import Derived.Test.YtjnehpkkkmicfaaBnA
import Derived.Test.YtjnehpkkkmicfaaBytesRow
namespace Go.Proofs.Ytjnehpkkkmicfaa.Bt
open Go.RowKit

theorem get_zero {s : ByteArray} {n a r : Int} (h : getE s n a r = 0) : chk s n = 0 ∧ 0 ≤ r ∧ r ≤ 64 ∧ 0 ≤ a ∧ a ≤ n ∧ r ≤ n - a ∧ n ≤ 1048576 := by
  unfold getE at h
  split at h
  · cases h
  · rename_i h1
    have h1' : chk s n = 0 := by omega
    have h2 := (chk_zero h1').2.1
    split at h
    · cases h
    · split at h
      · cases h
      · omega
theorem get_of {s : ByteArray} {n a r : Int} (h1 : chk s n = 0) (h2 : 0 ≤ r) (h3 : r ≤ 64) (h4 : 0 ≤ a) (h5 : a ≤ n) (h6 : r ≤ n - a) : getE s n a r = 0 := by
  unfold getE; rw [if_neg (by omega), if_neg (by omega), if_neg (by omega)]
theorem getV_zero {s : ByteArray} {n a r : Int} (h : getE s n a r ≠ 0) : getV s n a r = 0 := if_neg h
theorem getV_lt (s : ByteArray) (n a r : Int) : getV s n a r < 2 ^ r.toNat := by
  unfold getV
  split
  · exact num_take_lt _ _ _
  · exact Nat.two_pow_pos _
theorem getV_split {s : ByteArray} {n a p q : Int} (h : getE s n a (p + q) = 0) (hp : 0 ≤ p) (hq : 0 ≤ q) :
    getV s n a (p + q) = getV s n a p * 2 ^ q.toNat + getV s n (a + p) q := by
  obtain ⟨h1, h2, h3, h4, h5, h6, _⟩ := get_zero h
  have e2 : getE s n a p = 0 := get_of h1 hp (by omega) h4 h5 (by omega)
  have e3 : getE s n (a + p) q = 0 := get_of h1 hq (by omega) (by omega) (by omega) (by omega)
  unfold getV
  rw [if_pos h, if_pos e2, if_pos e3]
  rw [show (p + q).toNat = p.toNat + q.toNat from by omega, show (a + p).toNat = a.toNat + p.toNat from by omega, take_add, num_append]
  congr 2
  have hl := bl_length (bytes s) n.toNat
  rw [List.length_take, List.length_drop, hl]
  congr 1; omega
theorem join_val (x y q : Nat) (hx : x < 4294967296) (hy : y < 2 ^ q) (hq : q ≤ 32) :
    bits .or .u64 (IntKind.u64.wrap ((x : Int) * 2 ^ q)) (y : Int) = ((x * 2 ^ q + y : Nat) : Int) := by
  have h1 : (2 : Nat) ^ q ≤ 2 ^ 32 := Nat.pow_le_pow_right (by decide) hq
  have h2 : (2 : Nat) ^ 32 = 4294967296 := by decide
  have h3 : x * 2 ^ q ≤ 4294967295 * 4294967296 := Nat.mul_le_mul (by omega) (by omega)
  have e1 : ((x : Int) * 2 ^ q) = ((x * 2 ^ q : Nat) : Int) := by simp
  rw [e1, wrap_nat (by omega), u64_or_nat _ _ (by omega) (by omega), nat_join q _ _ (Nat.mul_mod_left _ _) hy]

end Go.Proofs.Ytjnehpkkkmicfaa.Bt
namespace Go.Proofs.Ytjnehpkkkmicfaa.Bt
open Go.RowKit

theorem bytes_mk (l : List UInt8) : bytes (⟨l.toArray⟩ : ByteArray) = l := by simp [bytes]
theorem packS_packs (X : List Bool) : Packs (bytes (packS X)) X := by unfold packS; rw [bytes_mk]; exact pack_packs X
theorem packS_chk {X : List Bool} (h : X.length ≤ 1048576) : chk (packS X) X.length = 0 := if_pos ((packS_packs X).right h)
theorem packS_size {X : List Bool} (h : X.length ≤ 1048576) : (packS X).size ≤ 200000 := size_small ((packS_packs X).right h)
theorem packS_bits (X : List Bool) : bl (bytes (packS X)) X.length = X := (packS_packs X).bitsOf
theorem put_zero {s : ByteArray} {n : Int} {v : Nat} {r : Int} (h : putE s n v r = 0) : chk s n = 0 ∧ 0 ≤ r ∧ r ≤ 64 ∧ v < 2 ^ r.toNat ∧ n + r ≤ 1048576 := by
  unfold putE at h
  split at h
  · cases h
  · split at h
    · cases h
    · split at h
      · cases h
      · rename_i h1 h2 h3
        refine ⟨by omega, by omega, by omega, ?_, by omega⟩
        exact (div_zero_iff v _).1 (by omega)
theorem put_cases (s : ByteArray) (n : Int) (v : Nat) (r : Int) : putE s n v r = 0 ∨ putE s n v r = 2 ∨ (putE s n v r ≠ 0 ∧ putE s n v r ≠ 2 ∧ putS s n v r = s ∧ putN s n v r = n) := by
  by_cases h0 : putE s n v r = 0
  · exact .inl h0
  · by_cases h2 : putE s n v r = 2
    · exact .inr (.inl h2)
    · exact .inr (.inr ⟨h0, h2, by unfold putS; rw [if_neg h0, if_neg h2], by unfold putN; rw [if_neg h0, if_neg h2]⟩)
/-- what was put is got -/
theorem back_got {s : ByteArray} {n : Int} {v : Nat} {r : Int} (h : putE s n v r = 0) : getE (putS s n v r) (putN s n v r) n r = 0 ∧ getV (putS s n v r) (putN s n v r) n r = v ∧ chk (putS s n v r) (putN s n v r) = 0 ∧ putN s n v r = n + r ∧ (putS s n v r).size ≤ 200000 := by
  obtain ⟨h1, h2, h3, h4, h5⟩ := put_zero h
  have hR := chk_zero h1
  have hn := hR.1
  have eS : putS s n v r = packS (bl (bytes s) n.toNat ++ nbits v r.toNat) := if_pos h
  have eN : putN s n v r = n + r := if_pos h
  have hl : (bl (bytes s) n.toNat ++ nbits v r.toNat).length = n.toNat + r.toNat := by rw [List.length_append, bl_length, nbits_length]
  have hc : chk (putS s n v r) (putN s n v r) = 0 := by
    rw [eS, eN]
    have := packS_chk (X := bl (bytes s) n.toNat ++ nbits v r.toNat) (by omega)
    rw [hl] at this
    rw [show n + r = ((n.toNat + r.toNat : Nat) : Int) from by omega]; exact this
  have hg : getE (putS s n v r) (putN s n v r) n r = 0 := get_of hc h2 h3 hn (by omega) (by omega)
  refine ⟨hg, ?_, hc, eN, by rw [eS]; exact packS_size (by omega)⟩
  unfold getV
  rw [if_pos hg, eS, eN, show (n + r).toNat = (bl (bytes s) n.toNat ++ nbits v r.toNat).length from by omega, packS_bits]
  rw [List.drop_append_of_le_length (by rw [bl_length]; exact Nat.le_refl _), List.drop_eq_nil_of_le (by rw [bl_length]; exact Nat.le_refl _), List.nil_append, List.take_of_length_le (by rw [nbits_length]; exact Nat.le_refl _), num_nbits _ _ h4]
/-- what was there stays -/
theorem back_stays {s : ByteArray} {n : Int} {v : Nat} {r a q : Int} (h : putE s n v r = 0) (hg : getE s n a q = 0) : getE (putS s n v r) (putN s n v r) a q = 0 ∧ getV (putS s n v r) (putN s n v r) a q = getV s n a q := by
  obtain ⟨h1, h2, h3, h4, h5⟩ := put_zero h
  have hb := back_got h
  obtain ⟨g1, g2, g3, g4, g5, g6, g7⟩ := get_zero hg
  have hc := hb.2.2.1
  have eN : putN s n v r = n + r := if_pos h
  have hg2 : getE (putS s n v r) (putN s n v r) a q = 0 := get_of hc g2 g3 g4 (by omega) (by omega)
  refine ⟨hg2, ?_⟩
  have eS : putS s n v r = packS (bl (bytes s) n.toNat ++ nbits v r.toNat) := if_pos h
  have hl : (bl (bytes s) n.toNat ++ nbits v r.toNat).length = n.toNat + r.toNat := by rw [List.length_append, bl_length, nbits_length]
  unfold getV
  rw [if_pos hg2, if_pos hg, eS, eN, show (n + r).toNat = (bl (bytes s) n.toNat ++ nbits v r.toNat).length from by omega, packS_bits]
  rw [List.drop_append_of_le_length (by rw [bl_length]; omega), List.take_append_of_le_length (by rw [List.length_drop, bl_length]; omega)]

end Go.Proofs.Ytjnehpkkkmicfaa.Bt
namespace Go.Proofs.Ytjnehpkkkmicfaa.Bt
open Go.RowKit

theorem info_bool : (Try.prog.info? 4).map (fun i => (i.zero, i.size, i.bytes)) = some (some (.bool false), 1, 1) := by kernel_rfl
def bools (X : List Bool) : List Value := X.map Value.bool
theorem grown_of {w w' : World} (h : Below w.heap.size w w') : w.grownBy w' none := ⟨h.os, h.tape, h.output, h.size, fun k hk _ => h.block k hk⟩
theorem owns_below {w w' : World} {B : Nat} {e : TypeId} {v : Value} {n : Nat} {xs : List Value} (h : w.ownsRow B e 1 v n xs) (hb : Below w.heap.size w w') : w'.ownsRow B e 1 v n xs :=
  h.kept (grown_of hb) (by cases hv : v.ownBlock <;> simp)
theorem owns_base {w : World} {B B' : Nat} {e : TypeId} {v : Value} {n : Nat} {xs : List Value} (h : w.ownsRow B e 1 v n xs) (hb : B' ≤ B) : w.ownsRow B' e 1 v n xs := by
  refine ⟨h.1, ?_⟩
  rcases h.2 with h2 | ⟨g, cap, cur, hv, hg, r⟩
  · exact .inl h2
  · exact .inr ⟨g, cap, cur, hv, Nat.le_trans hb hg, r⟩
theorem bools_length (X : List Bool) : (bools X).length = X.length := by simp [bools]
theorem bools_snoc (X : List Bool) (b : Bool) : bools (X ++ [b]) = bools X ++ [.bool b] := by simp [bools]
theorem take_snoc_bool (X : List Bool) (k : Nat) (h : k < X.length) : X.take (k + 1) = X.take k ++ [X.getD k false] := by
  rw [List.take_succ_eq_append_getElem h]; simp [List.getD_eq_getElem?_getD, List.getElem?_eq_getElem h]

set_option maxHeartbeats 4000000 in
theorem all_any (s : ByteArray) (X : List Bool) (hX : Packs (bytes s) X) (hn : X.length ≤ 1048576) (w : World) (B : Nat) (hB : B ≤ w.heap.size) :
    Calls Try.prog 66 #[.agg #[.string s, .int .i64 X.length]] w fun e w' => ∃ v, e = .returned v ∧ w'.ownsRow B 4 1 v X.length (bools X) ∧ Below w.heap.size w w' := by
  obtain ⟨i0, hi, hz0, hz1, hz2⟩ := info_parts info_bool
  have hbx : Below w.heap.size w (w.alloc (.cells #[.string s, .int .i64 X.length] 35)) := (Below.refl _ _).alloc (Nat.le_refl _) _
  have hsz : s.size = (X.length + 7) / 8 := by rw [← bytes_len]; exact hX.1
  obtain ⟨n, hnn⟩ : ∃ n, n = X.length := ⟨_, rfl⟩
  rw [← hnn] at hbx ⊢
  rw [← hnn] at hn
  have hs9 : s.size ≤ 200000 := by omega
  have hs8 : n ≤ 8 * s.size := by omega
  have bx := Box.new w s n
  have HX := Lib.hid hX; have HN := Lib.hid hnn; have BX := Lib.hid bx
  clear hX hsz hnn bx
  go_enter Try.func66, Try.ntmps66
  go_wp2_with fail
  go_loopw [3, 4] (fun v i wr => ∃ k : Nat, k ≤ n ∧ i = .int .i64 k ∧ wr.ownsRow (w.heap.size + 1) 4 1 v k (bools (X.take k)) ∧ Box wr w.heap.size s n ∧ Below w.heap.size w wr) (fun _ i _ => n - (intOf i).toNat)
  case atStart => exact ⟨0, by omega, rfl, World.ownsRow_nil _ _ _ _, BX.out, hbx⟩
  case round =>
    obtain ⟨k, hk, rfl, hown, hb, hbl⟩ := hrel
    have c0 := hb.c0; have c1 := hb.c1
    by_cases hlt : k < n
    · have HB := Lib.hid hb; have HOWN := Lib.hid hown; have HBL := Lib.hid hbl
      clear hb hown hbl hk
      go_wp2_with fail
      refine (is_any s n k (by omega) (by omega) (by omega) _).mono ?_
      rintro e w1 ⟨rfl, b1⟩
      rw [Int.toNat_natCast]
      have hb2 := HB.out.below b1
      have hown1 := owns_below HOWN.out b1
      have hb3 := HBL.out.trans (b1.mono HBL.out.size)
      have hbit : bitAt (bytes s) k = X.getD k false := HX.out.2 k
      rw [hbit]
      obtain ⟨x, hx⟩ : ∃ x, x = X.getD k false := ⟨_, rfl⟩
      rw [← hx]
      have hz3 := hb3.size
      have HXX := Lib.hid hx; have HB2 := Lib.hid hb2; have HO1 := Lib.hid hown1; have HB3 := Lib.hid hb3
      clear hb2 hown1 hb3 hbit hx b1 c0 c1
      go_wp2_with (at_builtin; refine wpList_append_own _ rfl _ _ 105 rfl (w.heap.size + 1) 4 i0 (.bool false) 1 1 Try.underlying105 hi hz0 hz1 hz2 rfl (by decide) _ _ _ rfl (HO1.out.alloc _) ⟨w1.heap.size, 0, none⟩ 1 1 [.bool x] rfl rfl ?c1 ?c2 ?c3 ?c4 ?c5 ?_)
      case c1 =>
        intro t u ht
        match t, ht with
        | 0, ht => simp at ht; subst ht; simp [Addr.add]
      case c2 => intro u hu; simp at hu; subst hu; rfl
      case c3 => unfold maxLen; omega
      case c4 => omega
      case c5 => have := HB2.out.lt; simp; omega
      intro v' w2 hown2 hgrow _
      have hgr : Below (w.heap.size + 1) w1 w2 := (((Below.refl _ w1).alloc (by have := HB2.out.lt; omega) (.cells #[.bool x] 4)).grown hgrow (by have := HB2.out.lt; simp; omega) (fun g hg => by
        rcases HO1.out.2 with ⟨rfl, _⟩ | ⟨g', cap, cur, rfl, hb, _⟩
        · simp [Value.ownBlock] at hg
        · simp only [Value.ownBlock, Option.some.injEq] at hg
          subst hg; exact hb))
      have hbx2 : Box w2 w.heap.size s n := ⟨Nat.lt_of_lt_of_le HB2.out.lt hgr.size, by rw [hgr.cell (Nat.lt_succ_self _)]; exact HB2.out.c0, by rw [hgr.cell (Nat.lt_succ_self _)]; exact HB2.out.c1, by rw [hgr.frozen (Nat.lt_succ_self _)]; exact HB2.out.f0, by rw [hgr.frozen (Nat.lt_succ_self _)]; exact HB2.out.f1⟩
      have hown3 : w2.ownsRow (w.heap.size + 1) 4 1 v' (k + 1) (bools (X.take (k + 1))) := by
        rw [take_snoc_bool X k (by rw [← HN.out]; exact hlt), bools_snoc, ← HXX.out]; exact hown2
      have hb4 := HB3.out.trans (hgr.mono (Nat.le_succ _))
      have H3 := Lib.hid hown3; have H4 := Lib.hid hb4; have H5 := Lib.hid hbx2
      clear hown2 hgrow hgr hbx2 hown3 hb4
      go_wp2_with fail
      go_roundw
      case rel => exact ⟨k + 1, by omega, by go_num, H3.out, H5.out, H4.out⟩
      case measure => simp [intOf]; omega
    · obtain rfl : k = n := by omega
      have hfin : X.take k = X := List.take_of_length_le (by rw [← HN.out]; exact Nat.le_refl _)
      rw [hfin] at hown
      have HO := Lib.hid (owns_base hown (show B ≤ w.heap.size + 1 by omega))
      clear hown hfin
      go_wp2_with fail
      go_ret
      exact ⟨_, rfl, HO.out, hbl⟩
end Go.Proofs.Ytjnehpkkkmicfaa.Bt
namespace Go.Proofs.Ytjnehpkkkmicfaa.Bt
open Go.RowKit

/-- a byte with one more bit -/
theorem byte_add (x : UInt8) (t : Nat) (ht : t < 8) (hx : x.toNat.testBit t = false) : x.toNat + 2 ^ t < 256 ∧ ∀ j, (x.toNat + 2 ^ t).testBit j = (x.toNat.testBit j || decide (j = t)) := by
  have key : ∀ a : Fin 256, ∀ t : Fin 8, (a : Nat).testBit t = false → (a : Nat) + 2 ^ (t : Nat) < 256 ∧ (a : Nat) + 2 ^ (t : Nat) = (a : Nat) ||| 2 ^ (t : Nat) := by decide +kernel
  have h := key ⟨x.toNat, x.toNat_lt⟩ ⟨t, ht⟩ hx
  refine ⟨h.1, fun j => ?_⟩
  have e : x.toNat + 2 ^ t = x.toNat ||| 2 ^ t := h.2
  rw [e, Nat.testBit_or, Nat.testBit_two_pow]
  congr 1
  simp [eq_comm]
/-- the bytes so far: the first k bits are there -/
def Part (L : List UInt8) (X : List Bool) (k : Nat) : Prop := L.length = (X.length + 7) / 8 ∧ ∀ i, bitAt L i = (X.take k).getD i false
theorem part_zero (X : List Bool) : Part (List.replicate ((X.length + 7) / 8) 0) X 0 := by
  refine ⟨by simp, fun i => ?_⟩
  have : (List.replicate ((X.length + 7) / 8) (0 : UInt8)).getD (i / 8) 0 = 0 := by
    simp only [List.getD_eq_getElem?_getD, List.getElem?_replicate]
    split <;> rfl
  unfold bitAt
  rw [this]
  simp
theorem take_getD (X : List Bool) (k i : Nat) : (X.take k).getD i false = if i < k then X.getD i false else false := by
  simp only [List.getD_eq_getElem?_getD, List.getElem?_take]
  split <;> rfl
theorem part_skip {L : List UInt8} {X : List Bool} {k : Nat} (h : Part L X k) (hx : X.getD k false = false) : Part L X (k + 1) := by
  refine ⟨h.1, fun i => ?_⟩
  rw [h.2 i, take_getD, take_getD]
  by_cases hi : i < k
  · rw [if_pos hi, if_pos (by omega)]
  · rw [if_neg hi]
    by_cases hj : i = k
    · subst hj; rw [hx]; simp
    · rw [if_neg (by omega)]
theorem part_free {L : List UInt8} {X : List Bool} {k : Nat} (h : Part L X k) : (L.getD (k / 8) 0).toNat.testBit (7 - k % 8) = false := by
  have e := h.2 k
  rw [take_getD, if_neg (by omega)] at e
  exact e
theorem part_set {L : List UInt8} {X : List Bool} {k : Nat} (h : Part L X k) (hk : k < X.length) (hx : X.getD k false = true) : Part (L.set (k / 8) (UInt8.ofNat ((L.getD (k / 8) 0).toNat + 2 ^ (7 - k % 8)))) X (k + 1) := by
  have b := byte_add _ _ (by omega) (part_free h)
  refine ⟨by rw [List.length_set]; exact h.1, fun i => ?_⟩
  have hl := h.1
  have e := h.2 i
  rw [take_getD] at e ⊢
  unfold bitAt at e ⊢
  rw [Row.getD_set _ _ _ _ (by omega)]
  by_cases hs : k / 8 = i / 8
  · rw [if_pos hs, UInt8.toNat_ofNat_of_lt' b.1, b.2, hs, e]
    by_cases hi : i < k
    · have ne : ¬ (7 - i % 8 = 7 - k % 8) := by omega
      rw [if_pos hi, if_pos (by omega), decide_eq_false ne]; simp
    · by_cases hj : i = k
      · subst hj; rw [if_neg (Nat.lt_irrefl _), if_pos (Nat.lt_succ_self _), hx]; simp
      · have ne : ¬ (7 - i % 8 = 7 - k % 8) := by omega
        rw [if_neg hi, if_neg (by omega), decide_eq_false ne]; rfl
  · rw [if_neg hs, e]
    by_cases hi : i < k
    · rw [if_pos hi, if_pos (by omega)]
    · rw [if_neg hi, if_neg (by omega)]
theorem part_done {L : List UInt8} {X : List Bool} (h : Part L X X.length) : Packs L X := by
  refine ⟨h.1, fun i => ?_⟩
  rw [h.2 i, List.take_length]

/-- a slice of bools, as it is read -/
def BoolsAt (w : World) (p : Option Addr) (X : List Bool) : Prop := ∀ i, i < X.length → ∃ g o, p = some ⟨g, o, none⟩ ∧ g < w.heap.size ∧ w.cell? ⟨g, o + i, none⟩ = some (.bool (X.getD i false))
theorem BoolsAt.below {w w' : World} {p : Option Addr} {X : List Bool} (h : BoolsAt w p X) (hb : Below w.heap.size w w') : BoolsAt w' p X := fun i hi => by
  obtain ⟨g, o, e, hg, c⟩ := h i hi
  exact ⟨g, o, e, Nat.lt_of_lt_of_le hg hb.size, by rw [hb.cell hg]; exact c⟩
theorem made_bytes {w : World} {B g n : Nat} (h : w.ownsRow B 5 1 (.slice (some ⟨g, 0, none⟩) n n) n (madeCells #[Value.int .u8 0] n).toList) : Row.Bytes w g (List.replicate n 0) := by
  have hc : ∀ j, j < n → w.cell? ⟨g, j, none⟩ = some (.int .u8 0) := by
    intro j hj
    rw [h.cellAt j (by omega), toList_madeCells_one, List.getElem?_replicate, if_pos (by omega)]
  rcases h.2 with ⟨h0, _⟩ | ⟨g', cap, cur, hv, hb, hh, _⟩
  · cases h0
  · cases hv
    refine ⟨(Array.getElem?_eq_some_iff.1 hh).1, fun j hj => ?_, fun j hj => ?_⟩
    · rw [List.length_replicate] at hj
      rw [hc j hj]
      simp [List.getD_eq_getElem?_getD, hj]
    · simp [World.frozen?, hh]

theorem Box.other {w : World} {g : Nat} {s : ByteArray} {n : Int} (h : Box w g s n) (b i : Nat) (v : Value) (hb : b ≠ g) : Box (w.setCell ⟨b, i, none⟩ v) g s n := by
  have e : ∀ j, (⟨b, i, none⟩ : Addr) ≠ ⟨g, j, none⟩ := fun j h => by injection h with h; exact hb h
  exact ⟨by simpa using h.lt, by rw [World.cell?_setCell_other _ _ _ _ (e 0)]; exact h.c0, by rw [World.cell?_setCell_other _ _ _ _ (e 1)]; exact h.c1, by rw [World.frozen?_setCell]; exact h.f0, by rw [World.frozen?_setCell]; exact h.f1⟩
theorem Box.grown {w w' : World} {g : Nat} {s : ByteArray} {n : Int} (h : Box w g s n) (hg : w.grownBy w' none) : Box w' g s n := h.below ((Below.refl _ w).grown hg (Nat.le_refl _) (by simp))

set_option maxHeartbeats 4000000 in
theorem of_any (p : Option Addr) (cap : Nat) (X : List Bool) (w : World) (hl : BoolsAt w p X) (hn : X.length ≤ 2000000) :
    Calls Try.prog 67 #[.slice p X.length cap] w fun e w' => e = .returned (.agg #[.string (packS X), .int .i64 X.length]) ∧ Below w.heap.size w w' := by
  obtain ⟨i0, hi, hz0, hz1, hz2⟩ := info_parts info_u8
  obtain ⟨n, hnn⟩ : ∃ n, n = X.length := ⟨_, rfl⟩
  have HL := Lib.hid hl
  clear hl
  rw [← hnn] at hn ⊢
  obtain ⟨m, hm⟩ : ∃ m, m = (n + 7) / 8 := ⟨_, rfl⟩
  have q1 : ((n : Int) + 7).tdiv 8 = (m : Int) := by rw [Int.tdiv_eq_ediv_of_nonneg (by omega)]; omega
  have hm9 : m ≤ 260000 := by omega
  have HM := Lib.hid hm; have HN := Lib.hid hnn
  clear hm hnn
  go_enter Try.func67, Try.ntmps67
  go_wp2_with (at_make; refine wpList_make_full _ rfl _ _ 55 rfl w.heap.size 5 i0 (.int .u8 0) 1 Try.underlying55 hi hz0 hz1 .i64 .i64 ↑m ↑m m rfl rfl rfl rfl ?c1 ?c2 ?c3 ?_)
  case c1 => rw [hz2]; omega
  case c2 => unfold maxLen; omega
  case c3 => simp
  intro w1 hown hgr
  have hb1 : Below w.heap.size w w1 := ((Below.refl _ w).alloc (Nat.le_refl _) _).grown hgr (by simp) (by simp)
  have hrow := made_bytes hown
  have hbox := (Box.new w ⟨#[]⟩ 0).grown hgr
  have hl1 := HL.out.below hb1
  obtain ⟨G, hG⟩ : ∃ G, G = w.heap.size + 1 := ⟨_, rfl⟩
  have hGw : w.heap.size ≤ G := by omega
  rw [← hG] at hrow ⊢
  have HG := Lib.hid hG; have H1 := Lib.hid hb1; have HR := Lib.hid hrow; have HL1 := Lib.hid hl1; have BX := Lib.hid hbox
  clear hbox hown hgr hG hb1 hrow hl1
  go_wp2_with fail
  go_loopw [13, 4, 5] (fun j _ _ wr => ∃ (k : Nat) (L : List UInt8), k ≤ n ∧ j = .int .i64 k ∧ Part L X k ∧ Row.Bytes wr G L ∧ Below w.heap.size w wr ∧ Box wr w.heap.size ⟨#[]⟩ 0) (fun j _ _ _ => n - (intOf j).toNat)
  case atStart => exact ⟨0, _, by omega, rfl, by rw [HM.out, HN.out]; exact part_zero X, HR.out, H1.out, BX.out⟩
  case round =>
    obtain ⟨k, L, hk, rfl, hp, hr, hb, hbox⟩ := hrel
    by_cases hlt : k < n
    · obtain ⟨g, o, rfl, hg, hc⟩ := (HL.out.below hb) k (by rw [← HN.out]; exact hlt)
      have HP := Lib.hid hp; have HB := Lib.hid hb; have HRR := Lib.hid hr; have BX2 := Lib.hid hbox
      clear hp hb hr hbox
      cases hx : X.getD k false with
      | false =>
        rw [hx] at hc
        have HX := Lib.hid hx; clear hx
        go_wp2_with fail
        exact ⟨⟨k + 1, L, by omega, by go_num, part_skip HP.out HX.out, HRR.out, HB.out, BX2.out⟩, by simp [intOf]; omega⟩
      | true =>
        rw [hx] at hc
        have HX := Lib.hid hx; clear hx
        obtain ⟨j, hj⟩ : ∃ j, j = k / 8 := ⟨_, rfl⟩
        obtain ⟨t, ht⟩ : ∃ t, t = 7 - k % 8 := ⟨_, rfl⟩
        have hLm : L.length = m := by rw [HP.out.1, HM.out, HN.out]
        have hjm : j < m := by have := HM.out; omega
        have e1 : (k : Int) / 8 = (j : Int) := by omega
        have e2 : (7 : Int) - (k : Int) % 8 = (t : Int) := by omega
        have e3 : (j : Int) < (m : Int) := by omega
        have e4 : (0 : Int) ≤ (j : Int) := by omega
        have ht8 : t < 8 := by omega
        have hadd := byte_add (L.getD j 0) t ht8 (by rw [hj, ht]; exact part_free HP.out)
        obtain ⟨x, hx⟩ : ∃ x, x = (L.getD j 0).toNat := ⟨_, rfl⟩
        have hcx := HRR.out.cell j (by omega)
        have hfx := HRR.out.free j (by omega)
        rw [← hx] at hcx hadd
        have HJ := Lib.hid hj; have HT := Lib.hid ht; have HX2 := Lib.hid hx; have HA := Lib.hid hadd.1
        clear hj ht hx hadd
        go_wp2_with fail
        have ex : ((x : Int) + 2 ^ t) % 256 = ((UInt8.ofNat (x + 2 ^ t)).toNat : Int) := by
          have key : ∀ y : Nat, y < 256 → (y : Int) % 256 = ((UInt8.ofNat y).toNat : Int) := fun y hy => by rw [UInt8.toNat_ofNat_of_lt' hy]; omega
          have : ((x : Int) + 2 ^ t) = ((x + 2 ^ t : Nat) : Int) := by simp
          rw [this]; exact key _ HA.out
        rw [ex]
        have hset := HRR.out.set j (by omega) (UInt8.ofNat (x + 2 ^ t))
        have hpart := part_set HP.out (by rw [← HN.out]; exact hlt) HX.out
        rw [← HJ.out, ← HT.out, ← HX2.out] at hpart
        exact ⟨⟨k + 1, _, by omega, by go_num, hpart, hset, HB.out.setCell (p := ⟨G, j, none⟩) hGw _, BX2.out.other G j _ (by have := HG.out; omega)⟩, by simp [intOf]; omega⟩
    · obtain rfl : k = n := by omega
      rw [HN.out] at hp
      have hdone := packS_of (part_done hp)
      have hLm : L.length = m := by rw [hp.1, HM.out, HN.out]
      have hbk := Row.run_back hr m
      rw [hLm, ← hdone] at hbk
      have hB2 := (hb.setCell (p := ⟨w.heap.size, 0, none⟩) (Nat.le_refl _) (.string (packS X))).setCell (p := ⟨w.heap.size, 1, none⟩) (Nat.le_refl _) (.int .i64 k)
      have c0 := hbox.c0; have c1 := hbox.c1; have f0 := hbox.f0; have f1 := hbox.f1
      have hs2 := hbox.set (packS X) (k : Int)
      have z0 := Lib.hid hs2.c0; have z1 := Lib.hid hs2.c1
      have HB2 := Lib.hid hB2
      clear hs2 hB2 hp hr hb hbox hdone hLm
      go_wp2_with fail
      refine bodyPost_ret (v := .agg #[.string (packS X), .int .i64 k]) (by simp [results, Try.results67, go_sem, z0.out, z1.out]) rfl ⟨rfl, HB2.out⟩
end Go.Proofs.Ytjnehpkkkmicfaa.Bt
namespace Go.Proofs.Ytjnehpkkkmicfaa.Bt
open Go.RowKit

/-- what a row of bools is to Of -/
theorem row_bools {w : World} {B : Nat} {v : Value} {n : Nat} {Y : List Bool} (h : w.ownsRow B 4 1 v n (bools Y)) (hn : Y.length = n) : ∃ p cap, v = .slice p n cap ∧ BoolsAt w p Y := by
  have h0 := h
  rcases h.2 with ⟨rfl, rfl⟩ | ⟨g, cap, cur, rfl, hb, hh, _⟩
  · exact ⟨none, 0, rfl, fun i hi => by omega⟩
  · refine ⟨_, cap, rfl, fun i hi => ⟨g, 0, rfl, (Array.getElem?_eq_some_iff.1 hh).1, ?_⟩⟩
    rw [Nat.zero_add, h0.cellAt i (by omega)]
    simp [bools, List.getD_eq_getElem?_getD, List.getElem?_eq_getElem hi]
set_option maxRecDepth 100000 in
theorem all_of (s : ByteArray) (X : List Bool) (m : Nat) (hm : X.length = m) (hX : Packs (bytes s) X) (hn : m ≤ 1048576) (w : World) (B : Nat) (hB : B ≤ w.heap.size) :
    Calls Try.prog 66 #[.agg #[.string s, .int .i64 m]] w fun e w' => ∃ v, e = .returned v ∧ w'.ownsRow B 4 1 v m (bools X) ∧ Below w.heap.size w w' := by
  subst hm
  exact all_any s X hX hn w B hB
set_option maxRecDepth 100000 in
theorem of_of (v : Value) (B n : Nat) (Y : List Bool) (w : World) (h : w.ownsRow B 4 1 v n (bools Y)) (hY : Y.length = n) (hn : n ≤ 2000000) :
    Calls Try.prog 67 #[v] w fun e w' => e = .returned (.agg #[.string (packS Y), .int .i64 n]) ∧ Below w.heap.size w w' := by
  obtain ⟨p, cap, rfl, hb⟩ := row_bools h hY
  subst hY
  exact of_any p cap Y w hb hn
theorem nbits_snoc (X : List Bool) (v r u : Nat) (h : u < r) : X ++ (nbits v r).take (r - u) = (X ++ (nbits v r).take (r - (u + 1))) ++ [v.testBit u] := by
  rw [show r - u = (r - (u + 1)) + 1 from by omega, take_snoc_bool _ _ (by rw [nbits_length]; omega), nbits_getD, if_pos (by omega), show r - 1 - (r - (u + 1)) = u from by omega, List.append_assoc]
theorem box_end {w w1 : World} {s : ByteArray} {n : Int} (b1 : Below ((w.alloc (.cells #[.string s, .int .i64 n] 35)).alloc (.cells #[.string ⟨#[]⟩, .int .i64 0] 35)).heap.size ((w.alloc (.cells #[.string s, .int .i64 n] 35)).alloc (.cells #[.string ⟨#[]⟩, .int .i64 0] 35)) w1) : Box w1 w.heap.size s n ∧ Box w1 (w.heap.size + 1) ⟨#[]⟩ 0 := by
  refine ⟨((Box.new w s n).alloc (.cells #[.string ⟨#[]⟩, .int .i64 0] 35)).below b1, ?_⟩
  have h := (Box.new (w.alloc (.cells #[.string s, .int .i64 n] 35)) ⟨#[]⟩ 0).below b1
  simpa using h

set_option maxHeartbeats 8000000 in
set_option maxRecDepth 100000 in
theorem rput_any (s : ByteArray) (n : Int) (v : Nat) (r : Int) (w : World) (hs : s.size ≤ maxLen) (hv : v < 18446744073709551616) :
    Calls Try.prog 45 #[.agg #[.string s, .int .i64 n], .int .u64 v, .int .i64 r] w fun e w' => e = .returned (.tuple #[.agg #[.string (putS s n v r), .int .i64 (putN s n v r)], .int .i64 (putE s n v r)]) ∧ Below w.heap.size w w' := by
  have hbx : Below w.heap.size w ((w.alloc (.cells #[.string s, .int .i64 n] 35)).alloc (.cells #[.string ⟨#[]⟩, .int .i64 0] 35)) := ((Below.refl _ _).alloc (Nat.le_refl _) _).alloc (by simp) _
  rcases chk_cases s n with hc | hc
  case inr =>
    have e1 : putE s n v r = 2 := if_pos (by omega)
    have FS : Hid (putS s n v r = ⟨#[]⟩ ∧ putN s n v r = 0 ∧ putE s n v r = 2) := Lib.hid ⟨by unfold putS; rw [if_neg (by omega), if_pos e1], by unfold putN; rw [if_neg (by omega), if_pos e1], e1⟩
    clear e1
    go_enter Try.func45, Try.ntmps45
    go_wp2_with fail
    refine (rcheck_any _ _ _ hs).mono ?_
    rintro e w1 ⟨rfl, b1⟩
    have x0 := (box_end b1).1; have x1 := (box_end b1).2
    have c0 := x0.c0; have c1 := x0.c1
    have q0 := x1.c0; have q1 := x1.c1; have p0 := x1.f0; have p1 := x1.f1
    have x2 := x1.set ⟨#[]⟩ 0
    have b2 := hbx.trans (b1.mono (by simp; omega))
    have b3 := Lib.hid ((b2.setCell (p := ⟨w.heap.size + 1, 0, none⟩) (Nat.le_succ _) (.string ⟨#[]⟩)).setCell (p := ⟨w.heap.size + 1, 1, none⟩) (Nat.le_succ _) (.int .i64 0))
    have z0 := Lib.hid x2.c0; have z1 := Lib.hid x2.c1
    rw [hc]
    clear b1 b2 x0 x1 x2
    go_wp2_with fail
    refine bodyPost_ret (v := .tuple #[.agg #[.string ⟨#[]⟩, .int .i64 0], .int .i64 2]) (by simp [results, Try.results45, go_sem, z0.out, z1.out]) rfl ⟨ret_bit FS.out.1.symm FS.out.2.1.symm FS.out.2.2.symm, b3.out⟩
  have hR := chk_zero hc
  have hsm := size_small hR
  have hpk := hR.packs
  obtain ⟨m, rfl⟩ := Int.eq_ofNat_of_zero_le hR.1
  have hm : m ≤ 1048576 := by have := hR.2.1; omega
  by_cases hbad : r < 0 ∨ 64 < r ∨ v / 2 ^ r.toNat ≠ 0
  · have e1 : putE s m v r = 1 := by unfold putE; rw [if_neg (by omega), if_pos hbad]
    have FS : Hid (putS s m v r = s ∧ putN s m v r = m ∧ putE s m v r = 1) := Lib.hid ⟨by unfold putS; rw [if_neg (by omega), if_neg (by omega)], by unfold putN; rw [if_neg (by omega), if_neg (by omega)], e1⟩
    clear e1 hR hpk
    by_cases q1 : r < 0
    · go_enter Try.func45, Try.ntmps45
      go_wp2_with fail
      refine (rcheck_any _ _ _ hs).mono ?_
      rintro e w1 ⟨rfl, b1⟩
      have x0 := (box_end b1).1; have x1 := (box_end b1).2
      have c0 := x0.c0; have c1 := x0.c1
      have q0 := x1.c0; have q1 := x1.c1; have p0 := x1.f0; have p1 := x1.f1
      have x2 := x1.set s m
      have b2 := hbx.trans (b1.mono (by simp; omega))
      have b3 := Lib.hid ((b2.setCell (p := ⟨w.heap.size + 1, 0, none⟩) (Nat.le_succ _) (.string s)).setCell (p := ⟨w.heap.size + 1, 1, none⟩) (Nat.le_succ _) (.int .i64 m))
      have z0 := Lib.hid x2.c0; have z1 := Lib.hid x2.c1
      rw [hc]
      clear b1 b2 x0 x1 x2
      go_wp2_with fail
      refine bodyPost_ret (v := .tuple #[.agg #[.string s, .int .i64 m], .int .i64 1]) (by simp [results, Try.results45, go_sem, z0.out, z1.out]) rfl ⟨ret_bit FS.out.1.symm FS.out.2.1.symm FS.out.2.2.symm, b3.out⟩
    by_cases q2 : 64 < r
    · go_enter Try.func45, Try.ntmps45
      go_wp2_with fail
      refine (rcheck_any _ _ _ hs).mono ?_
      rintro e w1 ⟨rfl, b1⟩
      have x0 := (box_end b1).1; have x1 := (box_end b1).2
      have c0 := x0.c0; have c1 := x0.c1
      have q0 := x1.c0; have q1 := x1.c1; have p0 := x1.f0; have p1 := x1.f1
      have x2 := x1.set s m
      have b2 := hbx.trans (b1.mono (by simp; omega))
      have b3 := Lib.hid ((b2.setCell (p := ⟨w.heap.size + 1, 0, none⟩) (Nat.le_succ _) (.string s)).setCell (p := ⟨w.heap.size + 1, 1, none⟩) (Nat.le_succ _) (.int .i64 m))
      have z0 := Lib.hid x2.c0; have z1 := Lib.hid x2.c1
      rw [hc]
      clear b1 b2 x0 x1 x2
      go_wp2_with fail
      refine bodyPost_ret (v := .tuple #[.agg #[.string s, .int .i64 m], .int .i64 1]) (by simp [results, Try.results45, go_sem, z0.out, z1.out]) rfl ⟨ret_bit FS.out.1.symm FS.out.2.1.symm FS.out.2.2.symm, b3.out⟩
    obtain ⟨r, rfl⟩ := Int.eq_ofNat_of_zero_le (show 0 ≤ r by omega)
    rw [Int.toNat_natCast] at hbad
    have q3 : ((v : Int) / 2 ^ r != 0) = true := by
      have e : (v : Int) / 2 ^ r = ((v / 2 ^ r : Nat) : Int) := by simp
      rw [bne_iff_ne, e]; omega
    have q5 : r < 64 := by
      rcases Nat.lt_or_ge r 64 with h | h
      · exact h
      · have : r = 64 := by omega
        subst this
        have : v / 2 ^ 64 = 0 := Nat.div_eq_of_lt hv
        omega
    clear hbad
    go_enter Try.func45, Try.ntmps45
    go_wp2_with fail
    refine (rcheck_any _ _ _ hs).mono ?_
    rintro e w1 ⟨rfl, b1⟩
    have x0 := (box_end b1).1; have x1 := (box_end b1).2
    have c0 := x0.c0; have c1 := x0.c1
    have q0 := x1.c0; have q1 := x1.c1; have p0 := x1.f0; have p1 := x1.f1
    have x2 := x1.set s m
    have b2 := hbx.trans (b1.mono (by simp; omega))
    have b3 := Lib.hid ((b2.setCell (p := ⟨w.heap.size + 1, 0, none⟩) (Nat.le_succ _) (.string s)).setCell (p := ⟨w.heap.size + 1, 1, none⟩) (Nat.le_succ _) (.int .i64 m))
    have z0 := Lib.hid x2.c0; have z1 := Lib.hid x2.c1
    rw [hc]
    clear b1 b2 x0 x1 x2
    go_wp2_with fail
    refine bodyPost_ret (v := .tuple #[.agg #[.string s, .int .i64 m], .int .i64 1]) (by simp [results, Try.results45, go_sem, z0.out, z1.out]) rfl ⟨ret_bit FS.out.1.symm FS.out.2.1.symm FS.out.2.2.symm, b3.out⟩
  obtain ⟨r, rfl⟩ := Int.eq_ofNat_of_zero_le (show 0 ≤ r by omega)
  rw [Int.toNat_natCast] at hbad
  have hr : r ≤ 64 := by omega
  have hv0 : v / 2 ^ r = 0 := by omega
  have q3 : ((v : Int) / 2 ^ r != 0) = false := by
    have e : (v : Int) / 2 ^ r = ((v / 2 ^ r : Nat) : Int) := by simp
    rw [bne_eq_false_iff_eq, e, hv0]; rfl
  by_cases q4 : 1048576 < (m : Int) + (r : Int)
  · have e1 : putE s m v r = 8 := by unfold putE; rw [if_neg (by omega), if_neg (by rw [Int.toNat_natCast]; exact hbad), if_pos q4]
    have FS : Hid (putS s m v r = s ∧ putN s m v r = m ∧ putE s m v r = 8) := Lib.hid ⟨by unfold putS; rw [if_neg (by omega), if_neg (by omega)], by unfold putN; rw [if_neg (by omega), if_neg (by omega)], e1⟩
    clear e1 hR hbad hv0 hpk
    by_cases q5 : r < 64
    · go_enter Try.func45, Try.ntmps45
      go_wp2_with fail
      refine (rcheck_any _ _ _ hs).mono ?_
      rintro e w1 ⟨rfl, b1⟩
      have x0 := (box_end b1).1; have x1 := (box_end b1).2
      have c0 := x0.c0; have c1 := x0.c1
      have q0 := x1.c0; have q1 := x1.c1; have p0 := x1.f0; have p1 := x1.f1
      have x2 := x1.set s m
      have b2 := hbx.trans (b1.mono (by simp; omega))
      have b3 := Lib.hid ((b2.setCell (p := ⟨w.heap.size + 1, 0, none⟩) (Nat.le_succ _) (.string s)).setCell (p := ⟨w.heap.size + 1, 1, none⟩) (Nat.le_succ _) (.int .i64 m))
      have z0 := Lib.hid x2.c0; have z1 := Lib.hid x2.c1
      rw [hc]
      clear b1 b2 x0 x1 x2
      go_wp2_with fail
      refine bodyPost_ret (v := .tuple #[.agg #[.string s, .int .i64 m], .int .i64 8]) (by simp [results, Try.results45, go_sem, z0.out, z1.out]) rfl ⟨ret_bit FS.out.1.symm FS.out.2.1.symm FS.out.2.2.symm, b3.out⟩
    have q6 : r = 64 := by omega
    subst q6
    go_enter Try.func45, Try.ntmps45
    go_wp2_with fail
    refine (rcheck_any _ _ _ hs).mono ?_
    rintro e w1 ⟨rfl, b1⟩
    have x0 := (box_end b1).1; have x1 := (box_end b1).2
    have c0 := x0.c0; have c1 := x0.c1
    have q0 := x1.c0; have q1 := x1.c1; have p0 := x1.f0; have p1 := x1.f1
    have x2 := x1.set s m
    have b2 := hbx.trans (b1.mono (by simp; omega))
    have b3 := Lib.hid ((b2.setCell (p := ⟨w.heap.size + 1, 0, none⟩) (Nat.le_succ _) (.string s)).setCell (p := ⟨w.heap.size + 1, 1, none⟩) (Nat.le_succ _) (.int .i64 m))
    have z0 := Lib.hid x2.c0; have z1 := Lib.hid x2.c1
    rw [hc]
    clear b1 b2 x0 x1 x2
    go_wp2_with fail
    refine bodyPost_ret (v := .tuple #[.agg #[.string s, .int .i64 m], .int .i64 8]) (by simp [results, Try.results45, go_sem, z0.out, z1.out]) rfl ⟨ret_bit FS.out.1.symm FS.out.2.1.symm FS.out.2.2.symm, b3.out⟩
  have e1 : putE s m v r = 0 := by unfold putE; rw [if_neg (by omega), if_neg (by rw [Int.toNat_natCast]; exact hbad), if_neg q4]
  have FS : Hid (putS s m v r = packS (bl (bytes s) m ++ nbits v r) ∧ putN s m v r = (m : Int) + r ∧ putE s m v r = 0) := Lib.hid ⟨by unfold putS; rw [if_pos e1]; simp, by unfold putN; rw [if_pos e1], e1⟩
  clear e1 hR hbad hv0
  obtain ⟨i0, hi, hz0, hz1, hz2⟩ := info_parts info_bool
  obtain ⟨X, hX⟩ : ∃ X, X = bl (bytes s) m := ⟨_, rfl⟩
  rw [Int.toNat_natCast, ← hX] at hpk
  have hXm : X.length = m := by rw [hX, bl_length]
  rw [← hX] at FS
  have HPK := Lib.hid hpk; have HXM := Lib.hid hXm
  clear hpk hX hXm
  by_cases q5 : r < 64
  · go_enter Try.func45, Try.ntmps45
    go_wp2_with fail
    refine (rcheck_any _ _ _ hs).mono ?_
    rintro e w1 ⟨rfl, b1⟩
    have x0 := (box_end b1).1; have x1 := (box_end b1).2
    have c0 := x0.c0; have c1 := x0.c1
    have X1 := Lib.hid x1
    have B2 := Lib.hid (hbx.trans (b1.mono (by simp; omega)))
    have z2 : w.heap.size + 2 ≤ w1.heap.size := by have := x1.lt; omega
    rw [hc]
    clear b1 x0 x1
    go_wp2_with fail
    refine (all_of s X m HXM.out HPK.out hm _ (w.heap.size + 2) z2).mono ?_
    rintro e w2 ⟨v0, rfl, hown, b3⟩
    have x3 := X1.out.below b3
    have b4 := B2.out.trans (b3.mono (by omega))
    have HOWN := Lib.hid hown; have X3 := Lib.hid x3; have B4 := Lib.hid b4
    clear hown x3 b3 b4 c0 c1
    go_wp2_with fail
    obtain ⟨rr, hrr0⟩ : ∃ rr, rr = r := ⟨_, rfl⟩
    have hr9 : rr ≤ 64 := by rw [hrr0]; exact hr
    have hrr := Lib.hid hrr0
    clear hrr0
    go_loopw [8, 9] (fun l i wr => ∃ t : Nat, t ≤ rr ∧ i = .int .i64 ((t : Int) - 1) ∧ wr.ownsRow (w.heap.size + 2) 4 1 l (m + (rr - t)) (bools (X ++ (nbits v rr).take (rr - t))) ∧ Box wr (w.heap.size + 1) ⟨#[]⟩ 0 ∧ Below w.heap.size w wr) (fun _ i _ => (intOf i + 1).toNat)
    case atStart => exact ⟨rr, by omega, by have hq := hrr.out; first | (rw [hq]; done) | (congr 1; omega), by rw [Nat.sub_self]; simpa using HOWN.out, X3.out, B4.out⟩
    case round =>
      obtain ⟨t, ht, rfl, hown, hb, hbl⟩ := hrel
      have hz3 := hbl.size
      have hz4 := hb.lt
      by_cases hlt : 0 < t
      · obtain ⟨u, rfl⟩ : ∃ u, t = u + 1 := ⟨t - 1, by omega⟩
        have eu : (((u + 1 : Nat) : Int) - 1) = (u : Int) := by omega
        rw [eu]
        have HB := Lib.hid hb; have HO := Lib.hid hown; have HBL := Lib.hid hbl
        have hsn := nbits_snoc X v rr u (by omega)
        have hbt := bit_tmod v u
        obtain ⟨x, hx⟩ : ∃ x, x = v.testBit u := ⟨_, rfl⟩
        rw [← hx] at hbt hsn
        have HS := Lib.hid hsn
        clear hb hown hbl hsn hx
        go_wp2_with (at_builtin; refine wpList_append_own _ rfl _ _ 105 rfl (w.heap.size + 2) 4 i0 (.bool false) 1 1 Try.underlying105 hi hz0 hz1 hz2 rfl (by decide) _ _ _ rfl (HO.out.alloc _) ⟨wr.heap.size, 0, none⟩ 1 1 [.bool x] rfl rfl ?c1 ?c2 ?c3 ?c4 ?c5 ?_)
        case c1 =>
          intro t u ht
          match t, ht with
          | 0, ht => simp at ht; subst ht; simp [Addr.add]
        case c2 => intro u hu; simp at hu; subst hu; rfl
        case c3 => unfold maxLen; omega
        case c4 => omega
        case c5 => simp; omega
        intro v' w3 hown2 hgrow _
        have hgr : Below (w.heap.size + 2) wr w3 := (((Below.refl _ wr).alloc (by omega) (.cells #[.bool x] 4)).grown hgrow (by simp; omega) (fun g hg => by
          rcases HO.out.2 with ⟨rfl, _⟩ | ⟨g', cap, cur, rfl, hb, _⟩
          · simp [Value.ownBlock] at hg
          · simp only [Value.ownBlock, Option.some.injEq] at hg
            subst hg; exact hb))
        have hb5 : Box w3 (w.heap.size + 1) ⟨#[]⟩ 0 := ⟨Nat.lt_of_lt_of_le HB.out.lt hgr.size, by rw [hgr.cell (Nat.lt_succ_self _)]; exact HB.out.c0, by rw [hgr.cell (Nat.lt_succ_self _)]; exact HB.out.c1, by rw [hgr.frozen (Nat.lt_succ_self _)]; exact HB.out.f0, by rw [hgr.frozen (Nat.lt_succ_self _)]; exact HB.out.f1⟩
        have hown3 : w3.ownsRow (w.heap.size + 2) 4 1 v' (m + (rr - u)) (bools (X ++ (nbits v rr).take (rr - u))) := by
          rw [HS.out, bools_snoc, show m + (rr - u) = m + (rr - (u + 1)) + 1 from by omega]; exact hown2
        have hb6 := HBL.out.trans (hgr.mono (by omega))
        have H3 := Lib.hid hown3; have H4 := Lib.hid hb6; have H5 := Lib.hid hb5
        clear hown2 hgrow hgr hb5 hown3 hb6
        go_wp2_with fail
        go_roundw
        case rel => exact ⟨u, by omega, rfl, H3.out, H5.out, H4.out⟩
        case measure => simp [intOf]
      · obtain rfl : t = 0 := by omega
        have ht' : (nbits v rr).take (rr - 0) = nbits v rr := List.take_of_length_le (by rw [nbits_length]; omega)
        rw [ht'] at hown
        obtain ⟨M, hM⟩ : ∃ M, M = m + (rr - 0) := ⟨_, rfl⟩
        rw [← hM] at hown
        have hlen : (X ++ nbits v rr).length = M := by rw [List.length_append, HXM.out, nbits_length]; omega
        have HB := Lib.hid hb; have HO := Lib.hid hown; have HBL := Lib.hid hbl; have HLEN := Lib.hid hlen; have HMM := Lib.hid hM
        clear hb hown hbl hlen hM ht'
        go_wp2_with fail
        refine (of_of _ _ M (X ++ nbits v rr) _ HO.out HLEN.out (by have := HMM.out; have := hrr.out; omega)).mono ?_
        rintro e w3 ⟨rfl, b5⟩
        have x5 := HB.out.below b5
        have q0 := x5.c0; have q1 := x5.c1; have p0 := x5.f0; have p1 := x5.f1
        have x6 := x5.set (packS (X ++ nbits v rr)) (M : Int)
        have z0 := Lib.hid x6.c0; have z1 := Lib.hid x6.c1
        have b6 := Lib.hid (((HBL.out.trans (b5.mono hz3)).setCell (p := ⟨w.heap.size + 1, 0, none⟩) (Nat.le_succ _) (.string (packS (X ++ nbits v rr)))).setCell (p := ⟨w.heap.size + 1, 1, none⟩) (Nat.le_succ _) (.int .i64 M))
        have FM : Hid ((M : Int) = (m : Int) + (r : Int)) := Lib.hid (by have := HMM.out; have := hrr.out; omega)
        have FX : Hid (packS (X ++ nbits v rr) = putS s m v (r : Int)) := Lib.hid (by rw [FS.out.1, hrr.out])
        clear x5 x6 b5
        go_wp2_with fail
        refine bodyPost_ret (v := .tuple #[.agg #[.string (packS (X ++ nbits v rr)), .int .i64 M], .int .i64 0]) (by simp [results, Try.results45, go_sem, z0.out, z1.out]) rfl ⟨ret_bit FX.out (FM.out.trans FS.out.2.1.symm) FS.out.2.2.symm, b6.out⟩
  have q6 : r = 64 := by omega
  go_enter Try.func45, Try.ntmps45
  go_wp2_with fail
  refine (rcheck_any _ _ _ hs).mono ?_
  rintro e w1 ⟨rfl, b1⟩
  have x0 := (box_end b1).1; have x1 := (box_end b1).2
  have c0 := x0.c0; have c1 := x0.c1
  have X1 := Lib.hid x1
  have B2 := Lib.hid (hbx.trans (b1.mono (by simp; omega)))
  have z2 : w.heap.size + 2 ≤ w1.heap.size := by have := x1.lt; omega
  rw [hc]
  clear b1 x0 x1
  go_wp2_with fail
  refine (all_of s X m HXM.out HPK.out hm _ (w.heap.size + 2) z2).mono ?_
  rintro e w2 ⟨v0, rfl, hown, b3⟩
  have x3 := X1.out.below b3
  have b4 := B2.out.trans (b3.mono (by omega))
  have HOWN := Lib.hid hown; have X3 := Lib.hid x3; have B4 := Lib.hid b4
  clear hown x3 b3 b4 c0 c1
  go_wp2_with fail
  obtain ⟨rr, hrr0⟩ : ∃ rr, rr = r := ⟨_, rfl⟩
  have hr9 : rr ≤ 64 := by rw [hrr0]; exact hr
  have hrr := Lib.hid hrr0
  clear hrr0
  go_loopw [8, 9] (fun l i wr => ∃ t : Nat, t ≤ rr ∧ i = .int .i64 ((t : Int) - 1) ∧ wr.ownsRow (w.heap.size + 2) 4 1 l (m + (rr - t)) (bools (X ++ (nbits v rr).take (rr - t))) ∧ Box wr (w.heap.size + 1) ⟨#[]⟩ 0 ∧ Below w.heap.size w wr) (fun _ i _ => (intOf i + 1).toNat)
  case atStart => exact ⟨rr, by omega, by have hq := hrr.out; first | (rw [hq]; done) | (congr 1; omega), by rw [Nat.sub_self]; simpa using HOWN.out, X3.out, B4.out⟩
  case round =>
    obtain ⟨t, ht, rfl, hown, hb, hbl⟩ := hrel
    have hz3 := hbl.size
    have hz4 := hb.lt
    by_cases hlt : 0 < t
    · obtain ⟨u, rfl⟩ : ∃ u, t = u + 1 := ⟨t - 1, by omega⟩
      have eu : (((u + 1 : Nat) : Int) - 1) = (u : Int) := by omega
      rw [eu]
      have HB := Lib.hid hb; have HO := Lib.hid hown; have HBL := Lib.hid hbl
      have hsn := nbits_snoc X v rr u (by omega)
      have hbt := bit_tmod v u
      obtain ⟨x, hx⟩ : ∃ x, x = v.testBit u := ⟨_, rfl⟩
      rw [← hx] at hbt hsn
      have HS := Lib.hid hsn
      clear hb hown hbl hsn hx
      go_wp2_with (at_builtin; refine wpList_append_own _ rfl _ _ 105 rfl (w.heap.size + 2) 4 i0 (.bool false) 1 1 Try.underlying105 hi hz0 hz1 hz2 rfl (by decide) _ _ _ rfl (HO.out.alloc _) ⟨wr.heap.size, 0, none⟩ 1 1 [.bool x] rfl rfl ?c1 ?c2 ?c3 ?c4 ?c5 ?_)
      case c1 =>
        intro t u ht
        match t, ht with
        | 0, ht => simp at ht; subst ht; simp [Addr.add]
      case c2 => intro u hu; simp at hu; subst hu; rfl
      case c3 => unfold maxLen; omega
      case c4 => omega
      case c5 => simp; omega
      intro v' w3 hown2 hgrow _
      have hgr : Below (w.heap.size + 2) wr w3 := (((Below.refl _ wr).alloc (by omega) (.cells #[.bool x] 4)).grown hgrow (by simp; omega) (fun g hg => by
        rcases HO.out.2 with ⟨rfl, _⟩ | ⟨g', cap, cur, rfl, hb, _⟩
        · simp [Value.ownBlock] at hg
        · simp only [Value.ownBlock, Option.some.injEq] at hg
          subst hg; exact hb))
      have hb5 : Box w3 (w.heap.size + 1) ⟨#[]⟩ 0 := ⟨Nat.lt_of_lt_of_le HB.out.lt hgr.size, by rw [hgr.cell (Nat.lt_succ_self _)]; exact HB.out.c0, by rw [hgr.cell (Nat.lt_succ_self _)]; exact HB.out.c1, by rw [hgr.frozen (Nat.lt_succ_self _)]; exact HB.out.f0, by rw [hgr.frozen (Nat.lt_succ_self _)]; exact HB.out.f1⟩
      have hown3 : w3.ownsRow (w.heap.size + 2) 4 1 v' (m + (rr - u)) (bools (X ++ (nbits v rr).take (rr - u))) := by
        rw [HS.out, bools_snoc, show m + (rr - u) = m + (rr - (u + 1)) + 1 from by omega]; exact hown2
      have hb6 := HBL.out.trans (hgr.mono (by omega))
      have H3 := Lib.hid hown3; have H4 := Lib.hid hb6; have H5 := Lib.hid hb5
      clear hown2 hgrow hgr hb5 hown3 hb6
      go_wp2_with fail
      go_roundw
      case rel => exact ⟨u, by omega, rfl, H3.out, H5.out, H4.out⟩
      case measure => simp [intOf]
    · obtain rfl : t = 0 := by omega
      have ht' : (nbits v rr).take (rr - 0) = nbits v rr := List.take_of_length_le (by rw [nbits_length]; omega)
      rw [ht'] at hown
      obtain ⟨M, hM⟩ : ∃ M, M = m + (rr - 0) := ⟨_, rfl⟩
      rw [← hM] at hown
      have hlen : (X ++ nbits v rr).length = M := by rw [List.length_append, HXM.out, nbits_length]; omega
      have HB := Lib.hid hb; have HO := Lib.hid hown; have HBL := Lib.hid hbl; have HLEN := Lib.hid hlen; have HMM := Lib.hid hM
      clear hb hown hbl hlen hM ht'
      go_wp2_with fail
      refine (of_of _ _ M (X ++ nbits v rr) _ HO.out HLEN.out (by have := HMM.out; have := hrr.out; omega)).mono ?_
      rintro e w3 ⟨rfl, b5⟩
      have x5 := HB.out.below b5
      have q0 := x5.c0; have q1 := x5.c1; have p0 := x5.f0; have p1 := x5.f1
      have x6 := x5.set (packS (X ++ nbits v rr)) (M : Int)
      have z0 := Lib.hid x6.c0; have z1 := Lib.hid x6.c1
      have b6 := Lib.hid (((HBL.out.trans (b5.mono hz3)).setCell (p := ⟨w.heap.size + 1, 0, none⟩) (Nat.le_succ _) (.string (packS (X ++ nbits v rr)))).setCell (p := ⟨w.heap.size + 1, 1, none⟩) (Nat.le_succ _) (.int .i64 M))
      have FM : Hid ((M : Int) = (m : Int) + (r : Int)) := Lib.hid (by have := HMM.out; have := hrr.out; omega)
      have FX : Hid (packS (X ++ nbits v rr) = putS s m v (r : Int)) := Lib.hid (by rw [FS.out.1, hrr.out])
      clear x5 x6 b5
      go_wp2_with fail
      refine bodyPost_ret (v := .tuple #[.agg #[.string (packS (X ++ nbits v rr)), .int .i64 M], .int .i64 0]) (by simp [results, Try.results45, go_sem, z0.out, z1.out]) rfl ⟨ret_bit FX.out (FM.out.trans FS.out.2.1.symm) FS.out.2.2.symm, b6.out⟩
end Go.Proofs.Ytjnehpkkkmicfaa.Bt
