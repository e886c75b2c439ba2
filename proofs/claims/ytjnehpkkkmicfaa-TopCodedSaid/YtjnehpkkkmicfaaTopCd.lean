/- The law TopCoded. -/
import Derived.Test.YtjnehpkkkmicfaaTopCdM
import Derived.Test.YtjnehpkkkmicfaaTopBeg
import Derived.Test.YtjnehpkkkmicfaaTopPkM
namespace Go.Proofs.Ytjnehpkkkmicfaa.Tp
open Go.RowKit Go.Lib Rw Ls Od _root_.Go.Proofs.Ytjnehpkkkmicfaa.Nm Pk Cn Tb2
open Bt (Box packS bl)

theorem rd_u8 {w : World} {A : Option Addr} {L : List Nat} (h : Rd w A (u8s L)) (k : Nat) (hk : k < L.length) : ∃ a : Addr, A = some a ∧ w.cell? (a.add k) = some (.int .u8 (L.getD k 0 : Nat)) := by
  obtain ⟨a, e, _, hc⟩ := h k (by rw [u8s_length]; exact hk)
  refine ⟨a, e, ?_⟩
  rw [hc]
  simp [u8s, List.getD_eq_getElem?_getD, hk]
theorem coded_none (l : List Nat) (p : Option Addr) (c : Nat) (w : World) (h : 300 < l.length ∨ l.length = 0) (hb : l.length ≤ maxLen) :
    Calls Try.prog 10 #[.slice p l.length c] w fun e w' => e = .returned (.bool true) ∧ Below w.heap.size w w' := by
  have CL := Lib.hid (fun W => Tb.begins_any W)
  obtain ⟨n, hn⟩ : ∃ n, n = l.length := ⟨_, rfl⟩
  rw [← hn] at h hb ⊢
  clear hn
  rcases h with h | rfl
  · have t1 : decide ((300 : Int) < (n : Int)) = true := decide_eq_true (by omega)
    have t2 : decide (300 < n) = true := decide_eq_true h
    clear h
    go_enter Try.func10, Try.ntmps10
    go_wp2_with fail
    refine (CL.out _).mono ?_
    rintro e w0 ⟨rfl, b⟩
    have B := Lib.hid b
    clear b
    go_wp2_with fail
    go_ret
    exact ⟨rfl, B.out⟩
  · go_enter Try.func10, Try.ntmps10
    go_wp2_with fail
    refine (CL.out _).mono ?_
    rintro e w0 ⟨rfl, b⟩
    have B := Lib.hid b
    clear b
    go_wp2_with fail
    go_ret
    exact ⟨rfl, B.out⟩
set_option maxHeartbeats 8000000 in
set_option maxRecDepth 100000 in
theorem coded_law (T : TblC) (l : List Nat) (p : Option Addr) (c : Nat) (w : World) (hp : Rd w p (u8s l)) (h256 : ∀ x ∈ l, x < 256) (hml : l.length ≤ maxLen) :
    Calls Try.prog 10 #[.slice p l.length c] w fun e w' => e = .returned (.bool true) ∧ Below w.heap.size w w' := by
  by_cases hbig : 300 < l.length ∨ l.length = 0
  · exact coded_none l p c w hbig hml
  obtain ⟨i0, hi0, hz0, hz1, hz2⟩ := info_parts Cn.info_u64
  have CL := Lib.hid (fun W => Tb.begins_any W)
  obtain ⟨LS, S1, S2, A, C, hlen, g1, gw, gc, s1, s2, gr, gd, gk, gs, gA, gb⟩ := coded h256 (by omega)
  obtain ⟨n, hn⟩ : ∃ n, n = l.length := ⟨_, rfl⟩
  have ho := ctb_okW (l := l) (k := l.length) (by omega)
  have hul : (up LS).length = 256 := by rw [up_length, hlen]
  have CB : Hid (∀ q c W, Rd W q (nums (ctb l n)) → Calls Try.prog 24 #[.slice q 256 c, .int .i64 15] W (IEn W 256 LS 0)) := Lib.hid (fun q c W h => by
    rw [hn] at h
    have := plengths_any (ctb l l.length) 15 q c W h (by rw [ctb_length]; omega)
    rw [ctb_length] at this
    exact ien_of g1 hlen this)
  have CT : Hid (∀ q d W, Rd W q (zs (up LS)) → Calls Try.prog 26 #[.agg #[.string ⟨#[]⟩, .int .i64 0], .slice q 256 d] W (WrP W (S1, (A 0 : Int), 0))) := Lib.hid (fun q d W h => by
    have := T.write ⟨#[]⟩ 0 (up LS) q d W (by decide) h (by omega)
    rw [hul, gw] at this
    exact this)
  have CW : Hid (∀ q d q2 d2 W, Rd W q (zs (up LS)) → Rd W q2 (nums l) → Calls Try.prog 19 #[.agg #[.string S1, .int .i64 (A 0 : Int)], .slice q 256 d, .slice q2 n d2] W (WrP W (S2, (A n : Int), 0))) := Lib.hid (fun q d q2 d2 W h1 h2 => by
    have := pwrite_any S1 (A 0 : Int) (up LS) l q q2 d d2 W s1 h1 h2 (by omega) (by omega) (fun x hx => Nat.lt_of_lt_of_le (h256 x hx) (by decide))
    rw [hul, gc, ← hn] at this
    exact this)
  have CR : Hid (∀ W, Calls Try.prog 27 #[.agg #[.string S2, .int .i64 (A n : Int)], .int .i64 0, .int .i64 256] W (RlN W 256 LS (A 0 : Int) 0)) := Lib.hid (fun W => by
    have := T.read S2 (A n : Int) 0 256 W s2 (by omega) (by omega)
    rw [← hn] at gr
    exact rln_of gr hlen this)
  have CD : Hid (∀ k, k < n → ∀ q d W, Rd W q (zs (up LS)) → Calls Try.prog 21 #[.agg #[.string S2, .int .i64 (A n : Int)], .int .i64 (A k : Int), .slice q 256 d] W (RdP W (l.getD k 0, (A (k + 1) : Int), 0))) := Lib.hid (fun k hk q d W h => by
    have := pread_any S2 (A n : Int) (A k : Int) (up LS) q d W s2 h (by omega)
    rw [← hn] at gd
    rw [hul, gd k hk] at this
    exact this)
  have CC : Hid (∀ q c q2 d W, Rd W q (nums (ctb l n)) → Rd W q2 (zs (up LS)) → Calls Try.prog 31 #[.slice q 256 c, .slice q2 256 d] W fun e w' => e = .returned (.tuple #[.int .u64 (C : Int), .int .i64 0]) ∧ Below W.heap.size W w') := Lib.hid (fun q c q2 d W h1 h2 => by
    rw [hn] at h1
    have := pcost_any (ctb l l.length) (up LS) q q2 c d W h1 h2 (by rw [ctb_length]; omega) (by omega)
    rw [ctb_length, hul, gk] at this
    exact this)
  have CS : Hid (∀ q d W, Rd W q (zs (up LS)) → Calls Try.prog 28 #[.slice q 256 d] W fun e w' => e = .returned (.tuple #[.int .i64 (A 0 : Int), .int .i64 0]) ∧ Below W.heap.size W w') := Lib.hid (fun q d W h => by
    have := T.size (up LS) q d W h (by omega)
    rw [hul, gs] at this
    exact this)
  have hn300 : n ≤ 300 ∧ 1 ≤ n := by omega
  have t1 : decide ((300 : Int) < (n : Int)) = false := decide_eq_false (by omega)
  have t2 : decide (300 < n) = false := decide_eq_false (by omega)
  have t3 : ((n : Int) == 0) = false := by rw [beq_eq_false_iff_ne]; omega
  have t4 : (n == 0) = false := by rw [beq_eq_false_iff_ne]; omega
  have t5 : ¬ n = 0 := by omega
  rw [← hn] at gA gb
  have HGA := Lib.hid gA; have HGB := Lib.hid gb
  have HLT := Lib.hid h256; have HNL := Lib.hid hn
  have P := Lib.hid hp
  have HO0 := Lib.hid (fun W B => World.ownsRow_nil W B 23 1)
  have B : Hid (Below w.heap.size w w) := Lib.hid (Below.refl _ _)
  rw [← hn]
  clear hbig g1 gw gc s1 s2 gr gd gk gs gA gb hul ho hlen hn h256 hp T hml
  go_enter Try.func10, Try.ntmps10
  go_wp2_with fail
  refine (CL.out _).mono ?_
  rintro e w1 ⟨rfl, b⟩
  replace P := Lib.hid (P.out.below b)
  replace B := Lib.hid (B.out.trans (b.mono B.out.size))
  clear b
  go_wp2_with (at_make; refine wpList_make_full _ rfl _ _ 25 rfl w1.heap.size 23 i0 (.int .u64 0) 1 Try.underlying25 hi0 hz0 hz1 .i64 .i64 256 256 256 rfl rfl rfl rfl ?c1 ?c2 ?c3 ?_)
  case c1 => rw [hz2]; omega
  case c2 => unfold maxLen; omega
  case c3 => simp
  intro w2 hown2 hgr2
  have b2 : Below w1.heap.size w1 w2 := (Below.refl _ w1).grown hgr2 (Nat.le_refl _) (by simp)
  rw [toList_madeCells_one] at hown2
  obtain ⟨g, hg⟩ : ∃ g, g = w1.heap.size := ⟨_, rfl⟩
  rw [← hg] at hown2 b2 ⊢
  have HA : Hid (Arr w2 g 23 g 256 (nums (ctb l 0))) := Lib.hid (by
    rw [ctb_zero]
    have e : List.replicate 256 (Value.int .u64 0) = nums (List.replicate 256 0) := by simp [nums]
    rw [← e]; exact hown2)
  have HB : Hid (Below g w1 w2) := Lib.hid b2
  obtain ⟨hB, hhB⟩ : ∃ hB, hB = w2.heap.size := ⟨_, rfl⟩
  have HG := Lib.hid hg
  have HGB2 : Hid (g < hB ∧ hB ≤ w2.heap.size) := Lib.hid (by have := HA.out.lt.2; omega)
  have NB : Hid (∀ a, p = some a → 0 < n → a.block < g) := Lib.hid (fun a e h0 => by
    obtain ⟨a2, e2, h⟩ := P.out.form (by rw [u8s_length, ← HNL.out]; exact h0)
    rw [e] at e2; cases e2; rw [hg]; exact h)
  clear hown2 hgr2 b2 hg hhB
  go_wp2_with fail
  go_loopw [4, 37] (fun v iv wr => ∃ k : Nat, k ≤ n ∧ iv = .int .i64 k ∧ wr.ownsRow hB 23 1 v k (nums (l.take k)) ∧ Hid (Arr wr g 23 g 256 (nums (ctb l k))) ∧ Hid (Below g w1 wr) ∧ hB ≤ wr.heap.size) (fun _ iv _ => n - (RowKit.intOf iv).toNat)
  case atStart => exact ⟨0, by omega, rfl, by first | exact HO0.out _ _ | (rw [List.take_zero]; exact HO0.out _ _), HA, HB, HGB2.out.2⟩
  case round =>
    clear HA HB
    obtain ⟨k, hk, rfl, ho, ha, hb, hsz⟩ := hrel
    have HO := Lib.hid ho
    clear ho
    have P1 : Hid (Rd wr p (u8s l)) := Lib.hid (P.out.below (by rw [← HG.out]; exact hb.out))
    by_cases hlt : k < n
    · obtain ⟨a1, e1, cs⟩ := rd_u8 P1.out k (by rw [← HNL.out]; exact hlt)
      subst e1
      have hkl : k < l.length := by rw [← HNL.out]; exact hlt
      have hsu := ctb_succ l hkl
      have htk : l.take (k + 1) = l.take k ++ [l.getD k 0] := by rw [List.take_succ_eq_append_getElem hkl, gd hkl]
      obtain ⟨x, hx⟩ : ∃ x, x = l.getD k 0 := ⟨_, rfl⟩
      have hx256 : x < 256 := by rw [hx, gd hkl]; exact HLT.out _ (List.getElem_mem _)
      rw [← hx] at cs hsu htk
      have cg := ha.out.cell hx256
      have fg := ha.out.free x
      have hval : (nums (ctb l k)).getD x (.bool false) = .int .u64 (((ctb l k).getD x 0 : Nat) : Int) := by
        simp [nums, List.getD_eq_getElem?_getD, ctb_length, hx256]
      rw [hval, ctb_at l k hx256] at cg
      have hcl : (l.take k).count x ≤ 300 := Nat.le_trans List.count_le_length (by rw [List.length_take]; have := HNL.out; omega)
      obtain ⟨y, hy⟩ : ∃ y, y = (l.take k).count x := ⟨_, rfl⟩
      rw [← hy] at cg hcl hsu
      have S1 := ha.out.set x (.int .u64 ((y + 1 : Nat) : Int))
      rw [Bk.nums_set2, ← hsu] at S1
      have S2 := below_put hb.out (a := ⟨g, x, none⟩) (Nat.le_refl _) (.int .u64 ((y + 1 : Nat) : Int))
      have S3 := ownsRow_setCell_other HO.out (a := ⟨g, x, none⟩) (fun e => by have := (HO.out.lt g e).1; have := HGB2.out.1; omega) (.int .u64 ((y + 1 : Nat) : Int))
      have H1 := Lib.hid S1; have H2 := Lib.hid S2; have H3 := Lib.hid S3
      obtain ⟨y1, hy1⟩ : ∃ y1, y1 = y + 1 := ⟨_, rfl⟩
      rw [← hy1] at H1 H2 H3
      have v1 : IntKind.u64.wrap ((y : Int) + 1) = (y1 : Int) := by rw [hy1]; exact IntWalk.u64_in _ (by omega)
      have v2 : IntKind.u64.wrap (x : Int) = (x : Int) := IntWalk.u64_in _ (by omega)
      have k0 : (0 : Int) ≤ (k : Int) := by omega
      have k1 : (k : Int) < (n : Int) := by omega
      have x0 : (0 : Int) ≤ (x : Int) := by omega
      have x1 : (x : Int) < 256 := by omega
      have htl : nums (l.take k) ++ [.int .u64 (x : Int)] = nums (l.take (k + 1)) := by rw [htk]; simp [nums]
      have HTL := Lib.hid htl
      have hs5 : (wr.setCell ⟨g, x, none⟩ (.int .u64 (y1 : Int))).heap.size = wr.heap.size := by simp
      clear S1 S2 S3 hsu hx hy hy1 hval ha hb htk htl
      go_wp2_with (at_builtin; refine Rw.push rfl _ _ 25 rfl hB 23 i0 (.int .u64 0) 1 8 Try.underlying25 hi0 hz0 hz1 hz2 rfl (by decide) _ k _ rfl H3.out [.int .u64 (x : Int)] (by rw [hs5]; rfl) rfl rfl (by omega) (by omega) (by rw [hs5]; exact hsz) ?_)
      intro g4 cap4 w4 hown4 hgr4 _ _ hb4
      have H4 : Hid (Arr w4 g 23 g 256 (nums (ctb l (k + 1)))) := Lib.hid (World.ownsRow.kept H1.out hgr4 (.inr (fun e => by
        have := (HO.out.lt g e.symm).1; have := HGB2.out.1; omega)))
      have H5 : Hid (Below g w1 w4) := Lib.hid (H2.out.trans (hb4.mono (by have := HGB2.out.1; omega)))
      have hs4 : hB ≤ w4.heap.size := Nat.le_trans hsz (by have := hb4.size; simpa using this)
      have H6 := Lib.hid hown4
      clear hown4 hgr4 hb4 H1 H2 H3
      go_wp2_with fail
      go_roundw
      case rel => exact ⟨k + 1, by omega, by go_num, by rw [← HTL.out]; exact H6.out, H4, H5, hs4⟩
      case measure => simp [RowKit.intOf]; omega
    · obtain rfl : k = n := by omega
      have k1 : ¬ (k : Int) < (k : Int) := by omega
      obtain ⟨qs, ds, rfl, _, rs, _⟩ := own_rdN HO.out
      have hlk : l.take k = l := by rw [HNL.out]; exact List.take_length
      rw [hlk] at rs
      have QS := Lib.hid rs
      have W1 : Hid (Rd wr (some ⟨g, 0, none⟩) (nums (ctb l k))) := Lib.hid ha.out.rd
      replace B := Lib.hid (B.out.trans (hb.out.mono (by rw [HG.out]; exact B.out.size)))
      clear ha hb HO rs hlk P P1 NB
      go_wp2_with fail
      refine (CB.out _ _ _ W1.out).mono ?_
      rintro e w3 ⟨q3, c3, rfl, hc3, r3, b⟩
      replace W1 := Lib.hid (W1.out.below b)
      replace QS := Lib.hid (QS.out.below b)
      replace B := Lib.hid (B.out.trans (b.mono B.out.size))
      have R3 := Lib.hid r3
      clear b r3
      go_wp2_with fail
      refine (CT.out _ _ _ R3.out).mono ?_
      rintro e w4 ⟨rfl, b⟩
      replace W1 := Lib.hid (W1.out.below b)
      replace QS := Lib.hid (QS.out.below b)
      replace R3 := Lib.hid (R3.out.below b)
      replace B := Lib.hid (B.out.trans (b.mono B.out.size))
      clear b
      have BY : Hid (Box (w4.alloc (.cells #[.string S1, .int .i64 (A 0 : Int)] 35)) w4.heap.size S1 (A 0 : Int)) := Lib.hid (Box.new w4 S1 (A 0 : Int))
      have K4 : Hid (Below w4.heap.size w4 (w4.alloc (.cells #[.string S1, .int .i64 (A 0 : Int)] 35))) := Lib.hid ((Below.refl _ _).alloc (Nat.le_refl _) _)
      have y0 := BY.out.c0; have y1 := BY.out.c1
      go_wp2_with fail
      clear y0 y1
      refine (CW.out _ _ _ _ _ (R3.out.below K4.out) (QS.out.below K4.out)).mono ?_
      rintro e w5 ⟨rfl, b⟩
      replace BY := Lib.hid (BY.out.below b)
      replace K4 := Lib.hid (K4.out.trans (b.mono K4.out.size))
      clear b
      have y0 := BY.out.c0; have y1 := BY.out.c1; have f0 := BY.out.f0; have f1 := BY.out.f1
      have BZ := Lib.hid (BY.out.set S2 (A k : Int))
      have K5 := Lib.hid ((K4.out.setCell (p := ⟨w4.heap.size, 0, none⟩) (Nat.le_refl _) (.string S2)).setCell (p := ⟨w4.heap.size, 1, none⟩) (Nat.le_refl _) (.int .i64 (A k : Int)))
      have z0 := BZ.out.c0; have z1 := BZ.out.c1
      clear BY K4
      go_wp2_with fail
      clear y0 y1 f0 f1 z0 z1
      replace W1 := Lib.hid (W1.out.below K5.out)
      replace QS := Lib.hid (QS.out.below K5.out)
      replace B := Lib.hid (B.out.trans (K5.out.mono B.out.size))
      clear K5 R3
      refine (CR.out _).mono ?_
      rintro e w6 ⟨qg, cg, rfl, hcg, rg, b⟩
      replace W1 := Lib.hid (W1.out.below b)
      replace QS := Lib.hid (QS.out.below b)
      replace B := Lib.hid (B.out.trans (b.mono B.out.size))
      have BX : Hid (Box w6 w4.heap.size S2 (A k : Int)) := Lib.hid (BZ.out.below b)
      have RG := Lib.hid rg
      clear b rg BZ
      obtain ⟨gb, hgb⟩ : ∃ gb, gb = w4.heap.size := ⟨_, rfl⟩
      rw [← hgb] at BX ⊢
      clear hgb
      go_wp2_with fail
      go_loopw [13, 93] (fun av iv wr => ∃ j : Nat, j ≤ k ∧ iv = .int .i64 j ∧ av = .int .i64 (A j : Int) ∧ Hid (Rd wr (some ⟨g, 0, none⟩) (nums (ctb l k))) ∧ Hid (Rd wr qs (nums l)) ∧ Hid (Rd wr qg (zs (up LS))) ∧ Hid (Box wr gb S2 (A k : Int)) ∧ Hid (Below w.heap.size w wr)) (fun _ iv _ => k - (RowKit.intOf iv).toNat)
      case atStart => exact ⟨0, by omega, rfl, rfl, W1, QS, RG, BX, B⟩
      case round =>
        clear W1 QS RG BX B
        obtain ⟨j, hj, rfl, rfl, W1, QS, RG, BX, B⟩ := hrel
        by_cases hlt2 : j < k
        · obtain ⟨a2, e2, cs⟩ := rd_num QS.out j (by rw [← HNL.out]; exact hlt2)
          subst e2
          have CDk := Lib.hid (CD.out j hlt2)
          have k0 : (0 : Int) ≤ (j : Int) := by omega
          have k2 : (j : Int) < (k : Int) := by omega
          obtain ⟨x, hx⟩ : ∃ x, x = l.getD j 0 := ⟨_, rfl⟩
          obtain ⟨A1, hA1⟩ : ∃ A1, A1 = A (j + 1) := ⟨_, rfl⟩
          obtain ⟨Aj, hAj⟩ : ∃ Aj, Aj = A j := ⟨_, rfl⟩
          rw [← hx] at cs
          rw [← hx, ← hA1, ← hAj] at CDk
          rw [← hAj]
          have HA1 := Lib.hid hA1
          have y0 := BX.out.c0; have y1 := BX.out.c1
          have e3 : ((x : Int) != (x : Int)) = false := by simp
          clear hx hA1 hAj
          go_wp2_with fail
          refine (CDk.out _ _ _ RG.out).mono ?_
          rintro e w8 ⟨rfl, b⟩
          replace W1 := Lib.hid (W1.out.below b)
          replace QS := Lib.hid (QS.out.below b)
          replace RG := Lib.hid (RG.out.below b)
          replace BX := Lib.hid (BX.out.below b)
          replace B := Lib.hid (B.out.trans (b.mono B.out.size))
          clear b y0 y1
          go_wp2_with fail
          go_roundw
          case rel => exact ⟨j + 1, by omega, by go_num, by rw [← HA1.out], W1, QS, RG, BX, B⟩
          case measure => simp [RowKit.intOf]; omega
        · obtain rfl : j = k := by omega
          have k2 : ¬ (j : Int) < (j : Int) := by omega
          have ga := HGA.out; have gb2 := HGB.out
          obtain ⟨a0, ha0⟩ : ∃ a0, a0 = A 0 := ⟨_, rfl⟩
          obtain ⟨N, hN⟩ : ∃ N, N = A j := ⟨_, rfl⟩
          rw [← ha0, ← hN] at ga
          rw [← hN] at gb2 BX ⊢
          rw [← ha0] at CS
          have d1 : (N : Int) - (a0 : Int) = (C : Int) := by omega
          have d2 : IntKind.i64.wrap (C : Int) = (C : Int) := IntWalk.i64_in _ (by omega)
          have d3 : IntKind.u64.wrap (C : Int) = (C : Int) := IntWalk.u64_in _ (by omega)
          have d4 : ((N : Int) == (N : Int)) = true := by simp
          have d5 : ((C : Int) == (C : Int)) = true := by simp
          clear ha0 hN ga gb2
          go_wp2_with fail
          refine (CC.out _ _ _ _ _ W1.out RG.out).mono ?_
          rintro e w8 ⟨rfl, b⟩
          replace RG := Lib.hid (RG.out.below b)
          replace BX := Lib.hid (BX.out.below b)
          replace B := Lib.hid (B.out.trans (b.mono B.out.size))
          clear b
          go_wp2_with fail
          refine (CS.out _ _ _ RG.out).mono ?_
          rintro e w9 ⟨rfl, b⟩
          replace BX := Lib.hid (BX.out.below b)
          replace B := Lib.hid (B.out.trans (b.mono B.out.size))
          clear b
          have y0 := BX.out.c0; have y1 := BX.out.c1
          go_wp2_with fail
          go_ret
          exact ⟨rfl, B.out⟩
end Go.Proofs.Ytjnehpkkkmicfaa.Tp
