/- The walks of the document's All and Of. -/
import Derived.Test.YtjbbkcnfilnmcaaBitBack
namespace Go.Proofs.Ytjbbkcnfilnmcaa.Bt
open Go.RowKit

theorem info_bool : (Try.prog.info? 4).map (fun i => (i.zero, i.size, i.bytes)) = some (some (.bool false), 1, 1) := by kernel_rfl
def bools (X : List Bool) : List Value := X.map Value.bool
theorem grown_of {w w' : World} (h : Below w.heap.size w w') : w.grownBy w' none := ⟨h.os, h.tape, h.output, h.size, fun k hk _ => h.block k hk⟩
theorem owns_below {w w' : World} {B : Nat} {e : TypeId} {v : Value} {n : Nat} {xs : List Value} (h : w.ownsRow B e 1 v n xs) (hb : Below w.heap.size w w') : w'.ownsRow B e 1 v n xs :=
  h.kept (grown_of hb) (by cases hv : v.ownBlock <;> simp)
theorem owns_base {w : World} {B B' : Nat} {e : TypeId} {v : Value} {n : Nat} {xs : List Value} (h : w.ownsRow B e 1 v n xs) (hb : B' ≤ B) : w.ownsRow B' e 1 v n xs := by
  refine ⟨h.1, ?_⟩
  rcases h.2 with h2 | ⟨g, cap, cur, hv, hg, r⟩
  · exact .inl h2
  · exact .inr ⟨g, cap, cur, hv, Nat.le_trans hb hg, r⟩
theorem bools_length (X : List Bool) : (bools X).length = X.length := by simp [bools]
theorem bools_snoc (X : List Bool) (b : Bool) : bools (X ++ [b]) = bools X ++ [.bool b] := by simp [bools]
theorem take_snoc_bool (X : List Bool) (k : Nat) (h : k < X.length) : X.take (k + 1) = X.take k ++ [X.getD k false] := by
  rw [List.take_succ_eq_append_getElem h]; simp [List.getD_eq_getElem?_getD, List.getElem?_eq_getElem h]

set_option maxHeartbeats 4000000 in
theorem all_any (s : ByteArray) (X : List Bool) (hX : Packs (bytes s) X) (hn : X.length ≤ 1048576) (w : World) (B : Nat) (hB : B ≤ w.heap.size) :
    Calls Try.prog 41 #[.agg #[.string s, .int .i64 X.length]] w fun e w' => ∃ v, e = .returned v ∧ w'.ownsRow B 4 1 v X.length (bools X) ∧ Below w.heap.size w w' := by
  obtain ⟨i0, hi, hz0, hz1, hz2⟩ := info_parts info_bool
  have hbx : Below w.heap.size w (w.alloc (.cells #[.string s, .int .i64 X.length] 23)) := (Below.refl _ _).alloc (Nat.le_refl _) _
  have hsz : s.size = (X.length + 7) / 8 := by rw [← bytes_len]; exact hX.1
  obtain ⟨n, hnn⟩ : ∃ n, n = X.length := ⟨_, rfl⟩
  rw [← hnn] at hbx ⊢
  rw [← hnn] at hn
  have hs9 : s.size ≤ 200000 := by omega
  have hs8 : n ≤ 8 * s.size := by omega
  have bx := Box.new w s n
  have HX := Lib.hid hX; have HN := Lib.hid hnn; have BX := Lib.hid bx
  clear hX hsz hnn bx
  go_enter Try.func41, Try.ntmps41
  go_wp2_with fail
  go_loopw [3, 4] (fun v i wr => ∃ k : Nat, k ≤ n ∧ i = .int .i64 k ∧ wr.ownsRow (w.heap.size + 1) 4 1 v k (bools (X.take k)) ∧ Box wr w.heap.size s n ∧ Below w.heap.size w wr) (fun _ i _ => n - (intOf i).toNat)
  case atStart => exact ⟨0, by omega, rfl, World.ownsRow_nil _ _ _ _, BX.out, hbx⟩
  case round =>
    obtain ⟨k, hk, rfl, hown, hb, hbl⟩ := hrel
    have c0 := hb.c0; have c1 := hb.c1
    by_cases hlt : k < n
    · have HB := Lib.hid hb; have HOWN := Lib.hid hown; have HBL := Lib.hid hbl
      clear hb hown hbl hk
      go_wp2_with fail
      refine (is_any s n k (by omega) (by omega) (by omega) _).mono ?_
      rintro e w1 ⟨rfl, b1⟩
      rw [Int.toNat_natCast]
      have hb2 := HB.out.below b1
      have hown1 := owns_below HOWN.out b1
      have hb3 := HBL.out.trans (b1.mono HBL.out.size)
      have hbit : bitAt (bytes s) k = X.getD k false := HX.out.2 k
      rw [hbit]
      obtain ⟨x, hx⟩ : ∃ x, x = X.getD k false := ⟨_, rfl⟩
      rw [← hx]
      have hz3 := hb3.size
      have HXX := Lib.hid hx; have HB2 := Lib.hid hb2; have HO1 := Lib.hid hown1; have HB3 := Lib.hid hb3
      clear hb2 hown1 hb3 hbit hx b1 c0 c1
      go_wp2_with (at_builtin; refine wpList_append_own _ rfl _ _ 58 rfl (w.heap.size + 1) 4 i0 (.bool false) 1 1 Try.underlying58 hi hz0 hz1 hz2 rfl (by decide) _ _ _ rfl (HO1.out.alloc _) ⟨w1.heap.size, 0, none⟩ 1 1 [.bool x] rfl rfl ?c1 ?c2 ?c3 ?c4 ?c5 ?_)
      case c1 =>
        intro t u ht
        match t, ht with
        | 0, ht => simp at ht; subst ht; simp [Addr.add]
      case c2 => intro u hu; simp at hu; subst hu; rfl
      case c3 => unfold maxLen; omega
      case c4 => omega
      case c5 => have := HB2.out.lt; simp; omega
      intro v' w2 hown2 hgrow _
      have hgr : Below (w.heap.size + 1) w1 w2 := (((Below.refl _ w1).alloc (by have := HB2.out.lt; omega) (.cells #[.bool x] 4)).grown hgrow (by have := HB2.out.lt; simp; omega) (fun g hg => by
        rcases HO1.out.2 with ⟨rfl, _⟩ | ⟨g', cap, cur, rfl, hb, _⟩
        · simp [Value.ownBlock] at hg
        · simp only [Value.ownBlock, Option.some.injEq] at hg
          subst hg; exact hb))
      have hbx2 : Box w2 w.heap.size s n := ⟨Nat.lt_of_lt_of_le HB2.out.lt hgr.size, by rw [hgr.cell (Nat.lt_succ_self _)]; exact HB2.out.c0, by rw [hgr.cell (Nat.lt_succ_self _)]; exact HB2.out.c1, by rw [hgr.frozen (Nat.lt_succ_self _)]; exact HB2.out.f0, by rw [hgr.frozen (Nat.lt_succ_self _)]; exact HB2.out.f1⟩
      have hown3 : w2.ownsRow (w.heap.size + 1) 4 1 v' (k + 1) (bools (X.take (k + 1))) := by
        rw [take_snoc_bool X k (by rw [← HN.out]; exact hlt), bools_snoc, ← HXX.out]; exact hown2
      have hb4 := HB3.out.trans (hgr.mono (Nat.le_succ _))
      have H3 := Lib.hid hown3; have H4 := Lib.hid hb4; have H5 := Lib.hid hbx2
      clear hown2 hgrow hgr hbx2 hown3 hb4
      go_wp2_with fail
      go_roundw
      case rel => exact ⟨k + 1, by omega, by go_num, H3.out, H5.out, H4.out⟩
      case measure => simp [intOf]; omega
    · obtain rfl : k = n := by omega
      have hfin : X.take k = X := List.take_of_length_le (by rw [← HN.out]; exact Nat.le_refl _)
      rw [hfin] at hown
      have HO := Lib.hid (owns_base hown (show B ≤ w.heap.size + 1 by omega))
      clear hown hfin
      go_wp2_with fail
      go_ret
      exact ⟨_, rfl, HO.out, hbl⟩
end Go.Proofs.Ytjbbkcnfilnmcaa.Bt
