/- The walk of the document's Put. -/
import Derived.Test.YtbbokhelmhmgfaaBitOf
import Derived.Test.YtbbokhelmhmgfaaBitPutZ
namespace Go.Proofs.Ytbbokhelmhmgfaa.Bt
open Go.RowKit

/-- what a row of bools is to Of -/
theorem row_bools {w : World} {B : Nat} {v : Value} {n : Nat} {Y : List Bool} (h : w.ownsRow B 4 1 v n (bools Y)) (hn : Y.length = n) : ∃ p cap, v = .slice p n cap ∧ BoolsAt w p Y := by
  have h0 := h
  rcases h.2 with ⟨rfl, rfl⟩ | ⟨g, cap, cur, rfl, hb, hh, _⟩
  · exact ⟨none, 0, rfl, fun i hi => by omega⟩
  · refine ⟨_, cap, rfl, fun i hi => ⟨g, 0, rfl, (Array.getElem?_eq_some_iff.1 hh).1, ?_⟩⟩
    rw [Nat.zero_add, h0.cellAt i (by omega)]
    simp [bools, List.getD_eq_getElem?_getD, List.getElem?_eq_getElem hi]
theorem all_of (s : ByteArray) (X : List Bool) (m : Nat) (hm : X.length = m) (hX : Packs (bytes s) X) (hn : m ≤ 1048576) (w : World) (B : Nat) (hB : B ≤ w.heap.size) :
    Calls Try.prog 29 #[.agg #[.string s, .int .i64 m]] w fun e w' => ∃ v, e = .returned v ∧ w'.ownsRow B 4 1 v m (bools X) ∧ Below w.heap.size w w' := by
  subst hm
  exact all_any s X hX hn w B hB
theorem of_of (v : Value) (B n : Nat) (Y : List Bool) (w : World) (h : w.ownsRow B 4 1 v n (bools Y)) (hY : Y.length = n) (hn : n ≤ 2000000) :
    Calls Try.prog 30 #[v] w fun e w' => e = .returned (.agg #[.string (packS Y), .int .i64 n]) ∧ Below w.heap.size w w' := by
  obtain ⟨p, cap, rfl, hb⟩ := row_bools h hY
  subst hY
  exact of_any p cap Y w hb hn
theorem nbits_snoc (X : List Bool) (v r u : Nat) (h : u < r) : X ++ (nbits v r).take (r - u) = (X ++ (nbits v r).take (r - (u + 1))) ++ [v.testBit u] := by
  rw [show r - u = (r - (u + 1)) + 1 from by omega, take_snoc_bool _ _ (by rw [nbits_length]; omega), nbits_getD, if_pos (by omega), show r - 1 - (r - (u + 1)) = u from by omega, List.append_assoc]
theorem box_end {w w1 : World} {s : ByteArray} {n : Int} (b1 : Below ((w.alloc (.cells #[.string s, .int .i64 n] 23)).alloc (.cells #[.string ⟨#[]⟩, .int .i64 0] 23)).heap.size ((w.alloc (.cells #[.string s, .int .i64 n] 23)).alloc (.cells #[.string ⟨#[]⟩, .int .i64 0] 23)) w1) : Box w1 w.heap.size s n ∧ Box w1 (w.heap.size + 1) ⟨#[]⟩ 0 := by
  refine ⟨((Box.new w s n).alloc (.cells #[.string ⟨#[]⟩, .int .i64 0] 23)).below b1, ?_⟩
  have h := (Box.new (w.alloc (.cells #[.string s, .int .i64 n] 23)) ⟨#[]⟩ 0).below b1
  simpa using h

set_option maxHeartbeats 8000000 in
theorem rput_any (s : ByteArray) (n : Int) (v : Nat) (r : Int) (w : World) (hs : s.size ≤ maxLen) (hv : v < 18446744073709551616) :
    Calls Try.prog 10 #[.agg #[.string s, .int .i64 n], .int .u64 v, .int .i64 r] w fun e w' => e = .returned (.tuple #[.agg #[.string (putS s n v r), .int .i64 (putN s n v r)], .int .i64 (putE s n v r)]) ∧ Below w.heap.size w w' := by
  have hbx : Below w.heap.size w ((w.alloc (.cells #[.string s, .int .i64 n] 23)).alloc (.cells #[.string ⟨#[]⟩, .int .i64 0] 23)) := ((Below.refl _ _).alloc (Nat.le_refl _) _).alloc (by simp) _
  rcases chk_cases s n with hc | hc
  case inr =>
    have e1 : putE s n v r = 2 := if_pos (by omega)
    have FS : Hid (putS s n v r = ⟨#[]⟩ ∧ putN s n v r = 0 ∧ putE s n v r = 2) := Lib.hid ⟨by unfold putS; rw [if_neg (by omega), if_pos e1], by unfold putN; rw [if_neg (by omega), if_pos e1], e1⟩
    clear e1
    go_enter Try.func10, Try.ntmps10
    go_wp2_with fail
    refine (rcheck_any _ _ _ hs).mono ?_
    rintro e w1 ⟨rfl, b1⟩
    have x0 := (box_end b1).1; have x1 := (box_end b1).2
    have c0 := x0.c0; have c1 := x0.c1
    have q0 := x1.c0; have q1 := x1.c1; have p0 := x1.f0; have p1 := x1.f1
    have x2 := x1.set ⟨#[]⟩ 0
    have b2 := hbx.trans (b1.mono (by simp; omega))
    have b3 := Lib.hid ((b2.setCell (p := ⟨w.heap.size + 1, 0, none⟩) (Nat.le_succ _) (.string ⟨#[]⟩)).setCell (p := ⟨w.heap.size + 1, 1, none⟩) (Nat.le_succ _) (.int .i64 0))
    have z0 := Lib.hid x2.c0; have z1 := Lib.hid x2.c1
    rw [hc]
    clear b1 b2 x0 x1 x2
    go_wp2_with fail
    refine bodyPost_ret (v := .tuple #[.agg #[.string ⟨#[]⟩, .int .i64 0], .int .i64 2]) (by simp [results, Try.results10, go_sem, z0.out, z1.out]) rfl ⟨ret_bit FS.out.1.symm FS.out.2.1.symm FS.out.2.2.symm, b3.out⟩
  have hR := chk_zero hc
  have hsm := size_small hR
  have hpk := hR.packs
  obtain ⟨m, rfl⟩ := Int.eq_ofNat_of_zero_le hR.1
  have hm : m ≤ 1048576 := by have := hR.2.1; omega
  by_cases hbad : r < 0 ∨ 64 < r ∨ v / 2 ^ r.toNat ≠ 0
  · have e1 : putE s m v r = 1 := by unfold putE; rw [if_neg (by omega), if_pos hbad]
    have FS : Hid (putS s m v r = s ∧ putN s m v r = m ∧ putE s m v r = 1) := Lib.hid ⟨by unfold putS; rw [if_neg (by omega), if_neg (by omega)], by unfold putN; rw [if_neg (by omega), if_neg (by omega)], e1⟩
    clear e1 hR hpk
    by_cases q1 : r < 0
    · go_enter Try.func10, Try.ntmps10
      go_wp2_with fail
      refine (rcheck_any _ _ _ hs).mono ?_
      rintro e w1 ⟨rfl, b1⟩
      have x0 := (box_end b1).1; have x1 := (box_end b1).2
      have c0 := x0.c0; have c1 := x0.c1
      have q0 := x1.c0; have q1 := x1.c1; have p0 := x1.f0; have p1 := x1.f1
      have x2 := x1.set s m
      have b2 := hbx.trans (b1.mono (by simp; omega))
      have b3 := Lib.hid ((b2.setCell (p := ⟨w.heap.size + 1, 0, none⟩) (Nat.le_succ _) (.string s)).setCell (p := ⟨w.heap.size + 1, 1, none⟩) (Nat.le_succ _) (.int .i64 m))
      have z0 := Lib.hid x2.c0; have z1 := Lib.hid x2.c1
      rw [hc]
      clear b1 b2 x0 x1 x2
      go_wp2_with fail
      refine bodyPost_ret (v := .tuple #[.agg #[.string s, .int .i64 m], .int .i64 1]) (by simp [results, Try.results10, go_sem, z0.out, z1.out]) rfl ⟨ret_bit FS.out.1.symm FS.out.2.1.symm FS.out.2.2.symm, b3.out⟩
    by_cases q2 : 64 < r
    · go_enter Try.func10, Try.ntmps10
      go_wp2_with fail
      refine (rcheck_any _ _ _ hs).mono ?_
      rintro e w1 ⟨rfl, b1⟩
      have x0 := (box_end b1).1; have x1 := (box_end b1).2
      have c0 := x0.c0; have c1 := x0.c1
      have q0 := x1.c0; have q1 := x1.c1; have p0 := x1.f0; have p1 := x1.f1
      have x2 := x1.set s m
      have b2 := hbx.trans (b1.mono (by simp; omega))
      have b3 := Lib.hid ((b2.setCell (p := ⟨w.heap.size + 1, 0, none⟩) (Nat.le_succ _) (.string s)).setCell (p := ⟨w.heap.size + 1, 1, none⟩) (Nat.le_succ _) (.int .i64 m))
      have z0 := Lib.hid x2.c0; have z1 := Lib.hid x2.c1
      rw [hc]
      clear b1 b2 x0 x1 x2
      go_wp2_with fail
      refine bodyPost_ret (v := .tuple #[.agg #[.string s, .int .i64 m], .int .i64 1]) (by simp [results, Try.results10, go_sem, z0.out, z1.out]) rfl ⟨ret_bit FS.out.1.symm FS.out.2.1.symm FS.out.2.2.symm, b3.out⟩
    obtain ⟨r, rfl⟩ := Int.eq_ofNat_of_zero_le (show 0 ≤ r by omega)
    rw [Int.toNat_natCast] at hbad
    have q3 : ((v : Int) / 2 ^ r != 0) = true := by
      have e : (v : Int) / 2 ^ r = ((v / 2 ^ r : Nat) : Int) := by simp
      rw [bne_iff_ne, e]; omega
    have q5 : r < 64 := by
      rcases Nat.lt_or_ge r 64 with h | h
      · exact h
      · have : r = 64 := by omega
        subst this
        have : v / 2 ^ 64 = 0 := Nat.div_eq_of_lt hv
        omega
    clear hbad
    go_enter Try.func10, Try.ntmps10
    go_wp2_with fail
    refine (rcheck_any _ _ _ hs).mono ?_
    rintro e w1 ⟨rfl, b1⟩
    have x0 := (box_end b1).1; have x1 := (box_end b1).2
    have c0 := x0.c0; have c1 := x0.c1
    have q0 := x1.c0; have q1 := x1.c1; have p0 := x1.f0; have p1 := x1.f1
    have x2 := x1.set s m
    have b2 := hbx.trans (b1.mono (by simp; omega))
    have b3 := Lib.hid ((b2.setCell (p := ⟨w.heap.size + 1, 0, none⟩) (Nat.le_succ _) (.string s)).setCell (p := ⟨w.heap.size + 1, 1, none⟩) (Nat.le_succ _) (.int .i64 m))
    have z0 := Lib.hid x2.c0; have z1 := Lib.hid x2.c1
    rw [hc]
    clear b1 b2 x0 x1 x2
    go_wp2_with fail
    refine bodyPost_ret (v := .tuple #[.agg #[.string s, .int .i64 m], .int .i64 1]) (by simp [results, Try.results10, go_sem, z0.out, z1.out]) rfl ⟨ret_bit FS.out.1.symm FS.out.2.1.symm FS.out.2.2.symm, b3.out⟩
  obtain ⟨r, rfl⟩ := Int.eq_ofNat_of_zero_le (show 0 ≤ r by omega)
  rw [Int.toNat_natCast] at hbad
  have hr : r ≤ 64 := by omega
  have hv0 : v / 2 ^ r = 0 := by omega
  have q3 : ((v : Int) / 2 ^ r != 0) = false := by
    have e : (v : Int) / 2 ^ r = ((v / 2 ^ r : Nat) : Int) := by simp
    rw [bne_eq_false_iff_eq, e, hv0]; rfl
  by_cases q4 : 1048576 < (m : Int) + (r : Int)
  · have e1 : putE s m v r = 8 := by unfold putE; rw [if_neg (by omega), if_neg (by rw [Int.toNat_natCast]; exact hbad), if_pos q4]
    have FS : Hid (putS s m v r = s ∧ putN s m v r = m ∧ putE s m v r = 8) := Lib.hid ⟨by unfold putS; rw [if_neg (by omega), if_neg (by omega)], by unfold putN; rw [if_neg (by omega), if_neg (by omega)], e1⟩
    clear e1 hR hbad hv0 hpk
    by_cases q5 : r < 64
    · go_enter Try.func10, Try.ntmps10
      go_wp2_with fail
      refine (rcheck_any _ _ _ hs).mono ?_
      rintro e w1 ⟨rfl, b1⟩
      have x0 := (box_end b1).1; have x1 := (box_end b1).2
      have c0 := x0.c0; have c1 := x0.c1
      have q0 := x1.c0; have q1 := x1.c1; have p0 := x1.f0; have p1 := x1.f1
      have x2 := x1.set s m
      have b2 := hbx.trans (b1.mono (by simp; omega))
      have b3 := Lib.hid ((b2.setCell (p := ⟨w.heap.size + 1, 0, none⟩) (Nat.le_succ _) (.string s)).setCell (p := ⟨w.heap.size + 1, 1, none⟩) (Nat.le_succ _) (.int .i64 m))
      have z0 := Lib.hid x2.c0; have z1 := Lib.hid x2.c1
      rw [hc]
      clear b1 b2 x0 x1 x2
      go_wp2_with fail
      refine bodyPost_ret (v := .tuple #[.agg #[.string s, .int .i64 m], .int .i64 8]) (by simp [results, Try.results10, go_sem, z0.out, z1.out]) rfl ⟨ret_bit FS.out.1.symm FS.out.2.1.symm FS.out.2.2.symm, b3.out⟩
    have q6 : r = 64 := by omega
    subst q6
    go_enter Try.func10, Try.ntmps10
    go_wp2_with fail
    refine (rcheck_any _ _ _ hs).mono ?_
    rintro e w1 ⟨rfl, b1⟩
    have x0 := (box_end b1).1; have x1 := (box_end b1).2
    have c0 := x0.c0; have c1 := x0.c1
    have q0 := x1.c0; have q1 := x1.c1; have p0 := x1.f0; have p1 := x1.f1
    have x2 := x1.set s m
    have b2 := hbx.trans (b1.mono (by simp; omega))
    have b3 := Lib.hid ((b2.setCell (p := ⟨w.heap.size + 1, 0, none⟩) (Nat.le_succ _) (.string s)).setCell (p := ⟨w.heap.size + 1, 1, none⟩) (Nat.le_succ _) (.int .i64 m))
    have z0 := Lib.hid x2.c0; have z1 := Lib.hid x2.c1
    rw [hc]
    clear b1 b2 x0 x1 x2
    go_wp2_with fail
    refine bodyPost_ret (v := .tuple #[.agg #[.string s, .int .i64 m], .int .i64 8]) (by simp [results, Try.results10, go_sem, z0.out, z1.out]) rfl ⟨ret_bit FS.out.1.symm FS.out.2.1.symm FS.out.2.2.symm, b3.out⟩
  have e1 : putE s m v r = 0 := by unfold putE; rw [if_neg (by omega), if_neg (by rw [Int.toNat_natCast]; exact hbad), if_neg q4]
  have FS : Hid (putS s m v r = packS (bl (bytes s) m ++ nbits v r) ∧ putN s m v r = (m : Int) + r ∧ putE s m v r = 0) := Lib.hid ⟨by unfold putS; rw [if_pos e1]; simp, by unfold putN; rw [if_pos e1], e1⟩
  clear e1 hR hbad hv0
  obtain ⟨i0, hi, hz0, hz1, hz2⟩ := info_parts info_bool
  obtain ⟨X, hX⟩ : ∃ X, X = bl (bytes s) m := ⟨_, rfl⟩
  rw [Int.toNat_natCast, ← hX] at hpk
  have hXm : X.length = m := by rw [hX, bl_length]
  rw [← hX] at FS
  have HPK := Lib.hid hpk; have HXM := Lib.hid hXm
  clear hpk hX hXm
  by_cases q5 : r < 64
  · go_enter Try.func10, Try.ntmps10
    go_wp2_with fail
    refine (rcheck_any _ _ _ hs).mono ?_
    rintro e w1 ⟨rfl, b1⟩
    have x0 := (box_end b1).1; have x1 := (box_end b1).2
    have c0 := x0.c0; have c1 := x0.c1
    have X1 := Lib.hid x1
    have B2 := Lib.hid (hbx.trans (b1.mono (by simp; omega)))
    have z2 : w.heap.size + 2 ≤ w1.heap.size := by have := x1.lt; omega
    rw [hc]
    clear b1 x0 x1
    go_wp2_with fail
    refine (all_of s X m HXM.out HPK.out hm _ (w.heap.size + 2) z2).mono ?_
    rintro e w2 ⟨v0, rfl, hown, b3⟩
    have x3 := X1.out.below b3
    have b4 := B2.out.trans (b3.mono (by omega))
    have HOWN := Lib.hid hown; have X3 := Lib.hid x3; have B4 := Lib.hid b4
    clear hown x3 b3 b4 c0 c1
    go_wp2_with fail
    obtain ⟨rr, hrr0⟩ : ∃ rr, rr = r := ⟨_, rfl⟩
    have hr9 : rr ≤ 64 := by rw [hrr0]; exact hr
    have hrr := Lib.hid hrr0
    clear hrr0
    go_loopw [8, 9] (fun l i wr => ∃ t : Nat, t ≤ rr ∧ i = .int .i64 ((t : Int) - 1) ∧ wr.ownsRow (w.heap.size + 2) 4 1 l (m + (rr - t)) (bools (X ++ (nbits v rr).take (rr - t))) ∧ Box wr (w.heap.size + 1) ⟨#[]⟩ 0 ∧ Below w.heap.size w wr) (fun _ i _ => (intOf i + 1).toNat)
    case atStart => exact ⟨rr, by omega, by have hq := hrr.out; first | (rw [hq]; done) | (congr 1; omega), by rw [Nat.sub_self]; simpa using HOWN.out, X3.out, B4.out⟩
    case round =>
      obtain ⟨t, ht, rfl, hown, hb, hbl⟩ := hrel
      have hz3 := hbl.size
      have hz4 := hb.lt
      by_cases hlt : 0 < t
      · obtain ⟨u, rfl⟩ : ∃ u, t = u + 1 := ⟨t - 1, by omega⟩
        have eu : (((u + 1 : Nat) : Int) - 1) = (u : Int) := by omega
        rw [eu]
        have HB := Lib.hid hb; have HO := Lib.hid hown; have HBL := Lib.hid hbl
        have hsn := nbits_snoc X v rr u (by omega)
        have hbt := bit_tmod v u
        obtain ⟨x, hx⟩ : ∃ x, x = v.testBit u := ⟨_, rfl⟩
        rw [← hx] at hbt hsn
        have HS := Lib.hid hsn
        clear hb hown hbl hsn hx
        go_wp2_with (at_builtin; refine wpList_append_own _ rfl _ _ 49 rfl (w.heap.size + 2) 4 i0 (.bool false) 1 1 Try.underlying49 hi hz0 hz1 hz2 rfl (by decide) _ _ _ rfl (HO.out.alloc _) ⟨wr.heap.size, 0, none⟩ 1 1 [.bool x] rfl rfl ?c1 ?c2 ?c3 ?c4 ?c5 ?_)
        case c1 =>
          intro t u ht
          match t, ht with
          | 0, ht => simp at ht; subst ht; simp [Addr.add]
        case c2 => intro u hu; simp at hu; subst hu; rfl
        case c3 => unfold maxLen; omega
        case c4 => omega
        case c5 => simp; omega
        intro v' w3 hown2 hgrow _
        have hgr : Below (w.heap.size + 2) wr w3 := (((Below.refl _ wr).alloc (by omega) (.cells #[.bool x] 4)).grown hgrow (by simp; omega) (fun g hg => by
          rcases HO.out.2 with ⟨rfl, _⟩ | ⟨g', cap, cur, rfl, hb, _⟩
          · simp [Value.ownBlock] at hg
          · simp only [Value.ownBlock, Option.some.injEq] at hg
            subst hg; exact hb))
        have hb5 : Box w3 (w.heap.size + 1) ⟨#[]⟩ 0 := ⟨Nat.lt_of_lt_of_le HB.out.lt hgr.size, by rw [hgr.cell (Nat.lt_succ_self _)]; exact HB.out.c0, by rw [hgr.cell (Nat.lt_succ_self _)]; exact HB.out.c1, by rw [hgr.frozen (Nat.lt_succ_self _)]; exact HB.out.f0, by rw [hgr.frozen (Nat.lt_succ_self _)]; exact HB.out.f1⟩
        have hown3 : w3.ownsRow (w.heap.size + 2) 4 1 v' (m + (rr - u)) (bools (X ++ (nbits v rr).take (rr - u))) := by
          rw [HS.out, bools_snoc, show m + (rr - u) = m + (rr - (u + 1)) + 1 from by omega]; exact hown2
        have hb6 := HBL.out.trans (hgr.mono (by omega))
        have H3 := Lib.hid hown3; have H4 := Lib.hid hb6; have H5 := Lib.hid hb5
        clear hown2 hgrow hgr hb5 hown3 hb6
        go_wp2_with fail
        go_roundw
        case rel => exact ⟨u, by omega, rfl, H3.out, H5.out, H4.out⟩
        case measure => simp [intOf]
      · obtain rfl : t = 0 := by omega
        have ht' : (nbits v rr).take (rr - 0) = nbits v rr := List.take_of_length_le (by rw [nbits_length]; omega)
        rw [ht'] at hown
        obtain ⟨M, hM⟩ : ∃ M, M = m + (rr - 0) := ⟨_, rfl⟩
        rw [← hM] at hown
        have hlen : (X ++ nbits v rr).length = M := by rw [List.length_append, HXM.out, nbits_length]; omega
        have HB := Lib.hid hb; have HO := Lib.hid hown; have HBL := Lib.hid hbl; have HLEN := Lib.hid hlen; have HMM := Lib.hid hM
        clear hb hown hbl hlen hM ht'
        go_wp2_with fail
        refine (of_of _ _ M (X ++ nbits v rr) _ HO.out HLEN.out (by have := HMM.out; have := hrr.out; omega)).mono ?_
        rintro e w3 ⟨rfl, b5⟩
        have x5 := HB.out.below b5
        have q0 := x5.c0; have q1 := x5.c1; have p0 := x5.f0; have p1 := x5.f1
        have x6 := x5.set (packS (X ++ nbits v rr)) (M : Int)
        have z0 := Lib.hid x6.c0; have z1 := Lib.hid x6.c1
        have b6 := Lib.hid (((HBL.out.trans (b5.mono hz3)).setCell (p := ⟨w.heap.size + 1, 0, none⟩) (Nat.le_succ _) (.string (packS (X ++ nbits v rr)))).setCell (p := ⟨w.heap.size + 1, 1, none⟩) (Nat.le_succ _) (.int .i64 M))
        have FM : Hid ((M : Int) = (m : Int) + (r : Int)) := Lib.hid (by have := HMM.out; have := hrr.out; omega)
        have FX : Hid (packS (X ++ nbits v rr) = putS s m v (r : Int)) := Lib.hid (by rw [FS.out.1, hrr.out])
        clear x5 x6 b5
        go_wp2_with fail
        refine bodyPost_ret (v := .tuple #[.agg #[.string (packS (X ++ nbits v rr)), .int .i64 M], .int .i64 0]) (by simp [results, Try.results10, go_sem, z0.out, z1.out]) rfl ⟨ret_bit FX.out (FM.out.trans FS.out.2.1.symm) FS.out.2.2.symm, b6.out⟩
  have q6 : r = 64 := by omega
  go_enter Try.func10, Try.ntmps10
  go_wp2_with fail
  refine (rcheck_any _ _ _ hs).mono ?_
  rintro e w1 ⟨rfl, b1⟩
  have x0 := (box_end b1).1; have x1 := (box_end b1).2
  have c0 := x0.c0; have c1 := x0.c1
  have X1 := Lib.hid x1
  have B2 := Lib.hid (hbx.trans (b1.mono (by simp; omega)))
  have z2 : w.heap.size + 2 ≤ w1.heap.size := by have := x1.lt; omega
  rw [hc]
  clear b1 x0 x1
  go_wp2_with fail
  refine (all_of s X m HXM.out HPK.out hm _ (w.heap.size + 2) z2).mono ?_
  rintro e w2 ⟨v0, rfl, hown, b3⟩
  have x3 := X1.out.below b3
  have b4 := B2.out.trans (b3.mono (by omega))
  have HOWN := Lib.hid hown; have X3 := Lib.hid x3; have B4 := Lib.hid b4
  clear hown x3 b3 b4 c0 c1
  go_wp2_with fail
  obtain ⟨rr, hrr0⟩ : ∃ rr, rr = r := ⟨_, rfl⟩
  have hr9 : rr ≤ 64 := by rw [hrr0]; exact hr
  have hrr := Lib.hid hrr0
  clear hrr0
  go_loopw [8, 9] (fun l i wr => ∃ t : Nat, t ≤ rr ∧ i = .int .i64 ((t : Int) - 1) ∧ wr.ownsRow (w.heap.size + 2) 4 1 l (m + (rr - t)) (bools (X ++ (nbits v rr).take (rr - t))) ∧ Box wr (w.heap.size + 1) ⟨#[]⟩ 0 ∧ Below w.heap.size w wr) (fun _ i _ => (intOf i + 1).toNat)
  case atStart => exact ⟨rr, by omega, by have hq := hrr.out; first | (rw [hq]; done) | (congr 1; omega), by rw [Nat.sub_self]; simpa using HOWN.out, X3.out, B4.out⟩
  case round =>
    obtain ⟨t, ht, rfl, hown, hb, hbl⟩ := hrel
    have hz3 := hbl.size
    have hz4 := hb.lt
    by_cases hlt : 0 < t
    · obtain ⟨u, rfl⟩ : ∃ u, t = u + 1 := ⟨t - 1, by omega⟩
      have eu : (((u + 1 : Nat) : Int) - 1) = (u : Int) := by omega
      rw [eu]
      have HB := Lib.hid hb; have HO := Lib.hid hown; have HBL := Lib.hid hbl
      have hsn := nbits_snoc X v rr u (by omega)
      have hbt := bit_tmod v u
      obtain ⟨x, hx⟩ : ∃ x, x = v.testBit u := ⟨_, rfl⟩
      rw [← hx] at hbt hsn
      have HS := Lib.hid hsn
      clear hb hown hbl hsn hx
      go_wp2_with (at_builtin; refine wpList_append_own _ rfl _ _ 49 rfl (w.heap.size + 2) 4 i0 (.bool false) 1 1 Try.underlying49 hi hz0 hz1 hz2 rfl (by decide) _ _ _ rfl (HO.out.alloc _) ⟨wr.heap.size, 0, none⟩ 1 1 [.bool x] rfl rfl ?c1 ?c2 ?c3 ?c4 ?c5 ?_)
      case c1 =>
        intro t u ht
        match t, ht with
        | 0, ht => simp at ht; subst ht; simp [Addr.add]
      case c2 => intro u hu; simp at hu; subst hu; rfl
      case c3 => unfold maxLen; omega
      case c4 => omega
      case c5 => simp; omega
      intro v' w3 hown2 hgrow _
      have hgr : Below (w.heap.size + 2) wr w3 := (((Below.refl _ wr).alloc (by omega) (.cells #[.bool x] 4)).grown hgrow (by simp; omega) (fun g hg => by
        rcases HO.out.2 with ⟨rfl, _⟩ | ⟨g', cap, cur, rfl, hb, _⟩
        · simp [Value.ownBlock] at hg
        · simp only [Value.ownBlock, Option.some.injEq] at hg
          subst hg; exact hb))
      have hb5 : Box w3 (w.heap.size + 1) ⟨#[]⟩ 0 := ⟨Nat.lt_of_lt_of_le HB.out.lt hgr.size, by rw [hgr.cell (Nat.lt_succ_self _)]; exact HB.out.c0, by rw [hgr.cell (Nat.lt_succ_self _)]; exact HB.out.c1, by rw [hgr.frozen (Nat.lt_succ_self _)]; exact HB.out.f0, by rw [hgr.frozen (Nat.lt_succ_self _)]; exact HB.out.f1⟩
      have hown3 : w3.ownsRow (w.heap.size + 2) 4 1 v' (m + (rr - u)) (bools (X ++ (nbits v rr).take (rr - u))) := by
        rw [HS.out, bools_snoc, show m + (rr - u) = m + (rr - (u + 1)) + 1 from by omega]; exact hown2
      have hb6 := HBL.out.trans (hgr.mono (by omega))
      have H3 := Lib.hid hown3; have H4 := Lib.hid hb6; have H5 := Lib.hid hb5
      clear hown2 hgrow hgr hb5 hown3 hb6
      go_wp2_with fail
      go_roundw
      case rel => exact ⟨u, by omega, rfl, H3.out, H5.out, H4.out⟩
      case measure => simp [intOf]
    · obtain rfl : t = 0 := by omega
      have ht' : (nbits v rr).take (rr - 0) = nbits v rr := List.take_of_length_le (by rw [nbits_length]; omega)
      rw [ht'] at hown
      obtain ⟨M, hM⟩ : ∃ M, M = m + (rr - 0) := ⟨_, rfl⟩
      rw [← hM] at hown
      have hlen : (X ++ nbits v rr).length = M := by rw [List.length_append, HXM.out, nbits_length]; omega
      have HB := Lib.hid hb; have HO := Lib.hid hown; have HBL := Lib.hid hbl; have HLEN := Lib.hid hlen; have HMM := Lib.hid hM
      clear hb hown hbl hlen hM ht'
      go_wp2_with fail
      refine (of_of _ _ M (X ++ nbits v rr) _ HO.out HLEN.out (by have := HMM.out; have := hrr.out; omega)).mono ?_
      rintro e w3 ⟨rfl, b5⟩
      have x5 := HB.out.below b5
      have q0 := x5.c0; have q1 := x5.c1; have p0 := x5.f0; have p1 := x5.f1
      have x6 := x5.set (packS (X ++ nbits v rr)) (M : Int)
      have z0 := Lib.hid x6.c0; have z1 := Lib.hid x6.c1
      have b6 := Lib.hid (((HBL.out.trans (b5.mono hz3)).setCell (p := ⟨w.heap.size + 1, 0, none⟩) (Nat.le_succ _) (.string (packS (X ++ nbits v rr)))).setCell (p := ⟨w.heap.size + 1, 1, none⟩) (Nat.le_succ _) (.int .i64 M))
      have FM : Hid ((M : Int) = (m : Int) + (r : Int)) := Lib.hid (by have := HMM.out; have := hrr.out; omega)
      have FX : Hid (packS (X ++ nbits v rr) = putS s m v (r : Int)) := Lib.hid (by rw [FS.out.1, hrr.out])
      clear x5 x6 b5
      go_wp2_with fail
      refine bodyPost_ret (v := .tuple #[.agg #[.string (packS (X ++ nbits v rr)), .int .i64 M], .int .i64 0]) (by simp [results, Try.results10, go_sem, z0.out, z1.out]) rfl ⟨ret_bit FX.out (FM.out.trans FS.out.2.1.symm) FS.out.2.2.symm, b6.out⟩
end Go.Proofs.Ytbbokhelmhmgfaa.Bt
