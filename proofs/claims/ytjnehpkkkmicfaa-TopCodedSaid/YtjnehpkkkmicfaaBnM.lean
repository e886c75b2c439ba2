/- CanX CanY CanZ CanProg CanLives -/
import Derived.Test.YtjnehpkkkmicfaaBnL
import Derived.Test.YtjnehpkkkmicfaaBnC
import Derived.Test.YtjnehpkkkmicfaaBnJ
import Derived.Deep.RegionHeld3
import Derived.Test.YtjnehpkkkmicfaaSameN
namespace Go.Proofs.Ytjnehpkkkmicfaa.Cn
open Go.RowKit Go.Lib Rw Ls Od _root_.Go.Proofs.Ytjnehpkkkmicfaa.Nm Pk Bt Bk

/-- a symbol's code as bits -/
noncomputable def ptR (ls : List Int) (i : Nat) : ByteArray × Int := (packS (nbits ((codes ls).getD i 0) (ln ls i)), (ln ls i : Int))
/-- bits, one behind the other, as cells -/
def mv (M : Many) : List Value := M.flatMap fun m => [.string m.1, .int .i64 m.2]
theorem mv_snoc (M : Many) (m : ByteArray × Int) : mv (M ++ [m]) = mv M ++ [.string m.1, .int .i64 m.2] := by simp [mv]
theorem mv_length : ∀ M : Many, (mv M).length = M.length * 2
  | [] => rfl
  | m :: M => by
    have e : mv (m :: M) = [.string m.1, .int .i64 m.2] ++ mv M := rfl
    rw [e, List.length_append, mv_length M]; simp; omega
theorem mv_at : ∀ (M : Many) (i : Nat), i < M.length → (mv M)[i * 2]? = some (.string (M.at i).1) ∧ (mv M)[i * 2 + 1]? = some (.int .i64 (M.at i).2)
  | [], i, h => by simp at h
  | m :: M, 0, _ => ⟨rfl, rfl⟩
  | m :: M, i + 1, h => by
    have ih := mv_at M i (by simpa using h)
    have e : mv (m :: M) = [.string m.1, .int .i64 m.2] ++ mv M := rfl
    have e2 : Bt.Many.at (m :: M) (i + 1) = Bt.Many.at M i := rfl
    rw [e, e2, List.getElem?_append_right (by simp; omega), List.getElem?_append_right (by simp; omega)]
    have e3 : (i + 1) * 2 - [Value.string m.1, .int .i64 m.2].length = i * 2 := by simp; omega
    have e4 : (i + 1) * 2 + 1 - [Value.string m.1, .int .i64 m.2].length = i * 2 + 1 := by simp; omega
    rw [e3, e4]; exact ih
theorem many_of {W : World} {A : Nat} {M : Many} (h : Rd W (some ⟨A, 0, none⟩) (mv M)) (hs : ∀ i, i < M.length → (M.at i).1.size ≤ maxLen) : ManyAt W (some ⟨A, 0, none⟩) M := fun i hi => by
  obtain ⟨a, b⟩ := mv_at M i hi
  have hl := mv_length M
  have c1 := h.at (i := i * 2) (by omega)
  have c2 := h.at (i := i * 2 + 1) (by omega)
  rw [List.getD_eq_getElem?_getD, a] at c1
  rw [List.getD_eq_getElem?_getD, b] at c2
  obtain ⟨a', e', hlt⟩ := h.form (by omega)
  cases e'
  have ea : ∀ k, ((⟨A, 0, none⟩ : Addr).add k) = ⟨A, k, none⟩ := fun k => by simp [Addr.add] <;> omega
  rw [ea] at c1 c2
  refine ⟨A, 0, rfl, hlt, ?_, ?_, hs i hi⟩
  · rw [Nat.zero_add]; exact c1
  · rw [Nat.zero_add]; exact c2
noncomputable def ptL (ls : List Int) (k : Nat) : List Value := mv ((List.range k).map (ptR ls))
theorem ptL_succ (ls : List Int) (k : Nat) : ptL ls (k + 1) = ptL ls k ++ [.string (ptR ls k).1, .int .i64 (ptR ls k).2] := by
  unfold ptL; rw [List.range_succ, List.map_append]; exact mv_snoc _ _
noncomputable def ptM (ls : List Int) : Many := (List.range ls.length).map (ptR ls)
theorem ptM_length (ls : List Int) : (ptM ls).length = ls.length := by simp [ptM]
theorem ptM_at (ls : List Int) {i : Nat} (hi : i < ls.length) : (ptM ls).at i = ptR ls i := by simp [ptM, Bt.Many.at, List.getD_eq_getElem?_getD, hi]
theorem nbits_small (v : Nat) {n : Nat} (h : n ≤ 15) : (packS (nbits v n)).size ≤ 200000 := by
  have hp := pack_packs (nbits v n)
  have hl := hp.1
  rw [nbits_length] at hl
  have : (packS (nbits v n)).size = (pack (nbits v n)).length := by simp [packS, ByteArray.size]
  omega
theorem chk_empty : chk ⟨#[]⟩ 0 = 0 := by decide +kernel
theorem put_empty {v n : Nat} (hn : n ≤ 15) (hv : v < 2 ^ n) : putE ⟨#[]⟩ 0 v (n : Int) = 0 ∧ Bt.putS ⟨#[]⟩ 0 v (n : Int) = packS (nbits v n) ∧ putN ⟨#[]⟩ 0 v (n : Int) = (n : Int) := by
  have e : putE ⟨#[]⟩ 0 v (n : Int) = 0 := by
    unfold putE
    rw [if_neg (by rw [chk_empty]; simp), if_neg, if_neg (by omega)]
    rintro (h | h | h)
    · omega
    · omega
    · rw [Int.toNat_natCast, Nat.div_eq_of_lt hv] at h; exact h rfl
  refine ⟨e, ?_, ?_⟩
  · unfold Bt.putS; rw [if_pos e]; simp [bl]
  · unfold putN; rw [if_pos e, Int.zero_add]
theorem codes_fit {ls : List Int} (hr : Rt ls) {i : Nat} (hi : i < ls.length) : (codes ls).getD i 0 < 2 ^ ln ls i := by
  rcases Nat.eq_zero_or_pos (ln ls i) with h | h
  · have : (codes ls).getD i 0 = 0 := by simp [codes, List.getD_eq_getElem?_getD, hi, h]
    rw [this]; exact Nat.two_pow_pos _
  · rw [codes_at hi h]; exact code_lt hi h (hr.ln15 hi) hr.room
theorem info_bit : (Try.prog.info? 35).map (fun i => (i.zero, i.size, i.bytes)) = some (some (.agg #[.string ⟨#[]⟩, .int .i64 0]), 2, 24) := by kernel_rfl
def PtP (w : World) (n : Nat) (M : Many) (e : Ending) (w' : World) : Prop := ∃ (A : Option Addr) (c : Nat), e = .returned (.tuple #[.slice A n c, .int .i64 0]) ∧ n ≤ c ∧ ManyAt w' A M ∧ Below w.heap.size w w'
set_option maxHeartbeats 4000000 in
set_option maxRecDepth 100000 in
theorem parts_any (ls : List Int) (g : Nat) (p : Option Addr) (c : Nat) (w : World) (hw : Wk w g p ls.length c ls) (hp : Rd w p (zs ls)) (hr : Rt ls) :
    Calls Try.prog 64 #[.pointer (some ⟨g, 0, none⟩)] w (PtP w ls.length (ptM ls)) := by
  obtain ⟨i0, hi0, hz0, hz1, hz2⟩ := info_parts info_bit
  have hfew := hr.few
  have hgs : g < w.heap.size := Blk.lt hw
  have HC : Hid (∀ W, Below w.heap.size w W → Calls Try.prog 33 #[.pointer (some ⟨g, 0, none⟩)] W fun e w' => ∃ q : Nat, e = .returned (.slice (some ⟨q, 0, none⟩) ls.length ls.length) ∧ W.heap.size ≤ q ∧ q < w'.heap.size ∧ Rd w' (some ⟨q, 0, none⟩) (nums (codes ls)) ∧ Below W.heap.size W w') := Lib.hid (fun W hb => codesP_any ls g p c W (Blk.below hw hb hgs) (hp.below hb) hr)
  have HR0 : Hid (∀ W, Below w.heap.size w W → W.cell? ⟨g, 0, none⟩ = some (.slice p ls.length c)) := Lib.hid (fun W hb => Wk.row (Blk.below hw hb hgs))
  have HP : Hid (∀ W, Below w.heap.size w W → Rd W p (zs ls)) := Lib.hid (fun W hb => hp.below hb)
  have HPut : Hid (∀ W i, i < ls.length → Calls Try.prog 60 #[.agg #[.string ⟨#[]⟩, .int .i64 0], .int .u64 ((codes ls).getD i 0 : Nat), .int .i64 (ln ls i : Int)] W fun e w' => e = .returned (.tuple #[.agg #[.string (ptR ls i).1, .int .i64 (ptR ls i).2], .int .i64 0]) ∧ Below W.heap.size W w') := Lib.hid (fun W i hi => by
    have hf := codes_fit hr hi
    obtain ⟨a, b, d⟩ := put_empty (hr.ln15 hi) hf
    have h64 : (codes ls).getD i 0 < 18446744073709551616 := Nat.lt_of_lt_of_le hf (Nat.le_trans (Nat.pow_le_pow_right (n := 2) (by decide) (hr.ln15 hi)) (by decide))
    have h := put_top ⟨#[]⟩ 0 ((codes ls).getD i 0) (ln ls i : Int) W (by unfold maxLen; show 0 ≤ _; omega) h64
    rw [a, b, d] at h
    exact h)
  have HLN : Hid (∀ i, i < ls.length → ls.getD i 0 = (ln ls i : Int)) := Lib.hid (fun i hi => by have := hr.all i hi; unfold ln; omega)
  have HEND : Hid (∀ W (A : Nat), Rd W (some ⟨A, 0, none⟩) (ptL ls ls.length) → ManyAt W (some ⟨A, 0, none⟩) (ptM ls)) := Lib.hid (fun W A h => many_of h fun i hi => by
    rw [ptM_length] at hi
    rw [ptM_at ls hi]
    exact Nat.le_trans (nbits_small _ (hr.ln15 hi)) (by unfold maxLen; omega))
  obtain ⟨m, hm⟩ : ∃ m, m = ls.length := ⟨_, rfl⟩
  have HCL : Hid ((nums (codes ls)).length = m) := Lib.hid (by rw [nums_length, codes_length, hm])
  have HZL : Hid ((zs ls).length = m) := Lib.hid (by rw [hm]; simp [zs])
  have c0 := HR0.out w (Below.refl _ _)
  rw [← hm] at hfew HC HR0 HPut HLN HEND c0 ⊢
  clear hw hp hr hm
  go_enter Try.func64, Try.ntmps64
  go_wp2_with (at_make; refine wpList_make_own _ rfl _ _ 69 rfl w.heap.size 35 i0 (.agg #[.string ⟨#[]⟩, .int .i64 0]) 2 Try.underlying69 hi0 hz0 hz1 .i64 .i64 (m : Int) m rfl rfl rfl ?c1 ?c2 ?c3 ?_)
  case c1 => rw [hz2]; omega
  case c2 => unfold maxLen; omega
  case c3 => exact Nat.le_refl _
  intro w1 hown hgr
  have hb1 : Below w.heap.size w w1 := (Below.refl _ w).grown hgr (Nat.le_refl _) (by simp)
  have hlt1 := (hown.lt w.heap.size rfl).2
  obtain ⟨r0, hr0⟩ : ∃ r0, r0 = w.heap.size := ⟨_, rfl⟩
  have HB1 := Lib.hid hb1; have HO1 := Lib.hid hown
  clear hown hgr hb1 c0
  go_wp2_with fail
  refine (HC.out _ HB1.out).mono ?_
  rintro e w2 ⟨q, rfl, hq, hqs, hrd, hb⟩
  have HB2 := Lib.hid (HB1.out.trans (hb.mono HB1.out.size))
  have HO2 := Lib.hid (own_below HO1.out hb)
  have HRD := Lib.hid hrd
  clear hb hrd HB1 HO1
  go_wp2_with fail
  go_loopw [4, 18] (fun lv iv wr => ∃ (k gl cap : Nat), k ≤ m ∧ lv = .slice (some ⟨gl, 0, none⟩) k cap ∧ iv = .int .i64 k ∧ Hid (wr.ownsRow w.heap.size 35 2 (.slice (some ⟨gl, 0, none⟩) k cap) k (ptL ls k)) ∧ gl ≠ q ∧ q < wr.heap.size ∧ Hid (Rd wr (some ⟨q, 0, none⟩) (nums (codes ls))) ∧ Hid (Below w.heap.size w wr)) (fun _ iv _ => m - (RowKit.intOf iv).toNat)
  case atStart => exact ⟨0, w.heap.size, m, by omega, rfl, rfl, HO2, by omega, hqs, HRD, HB2⟩
  case round =>
    clear HO2 HRD HB2
    obtain ⟨k, gl, cap, hk, rfl, rfl, ho, hne, hqw, hrd, hb⟩ := hrel
    have c0 := HR0.out wr hb.out
    by_cases hlt : k < m
    · have k0 : (0 : Int) ≤ (k : Int) := by omega
      have k1 : (k : Int) < (m : Int) := by omega
      obtain ⟨b, rfl, cz⟩ := rd_z (HP.out wr hb.out) k (by have := HZL.out; simpa [zs] using (by rw [show ls.length = m by simpa [zs] using HZL.out]; exact hlt : k < ls.length))
      rw [HLN.out k hlt] at cz
      have cc := hrd.out.at (i := k) (by rw [HCL.out]; exact hlt)
      have ec : (nums (codes ls)).getD k (.bool false) = .int .u64 ((codes ls).getD k 0 : Nat) := by
        have : k < (codes ls).length := by have := HCL.out; rw [nums_length] at this; omega
        simp [nums, List.getD_eq_getElem?_getD, this]
      have ea : ((⟨q, 0, none⟩ : Addr).add k) = ⟨q, k, none⟩ := by simp [Addr.add] <;> omega
      rw [ec, ea] at cc
      clear ea
      have HPu := Lib.hid (fun W => HPut.out W k hlt)
      have HS : Hid (ptL ls (k + 1) = ptL ls k ++ [.string (ptR ls k).1, .int .i64 (ptR ls k).2]) := Lib.hid (ptL_succ ls k)
      obtain ⟨S, hS⟩ : ∃ S, S = (ptR ls k).1 := ⟨_, rfl⟩
      obtain ⟨N, hN⟩ : ∃ N, N = (ptR ls k).2 := ⟨_, rfl⟩
      obtain ⟨cd, hcd⟩ : ∃ cd, cd = (codes ls).getD k 0 := ⟨_, rfl⟩
      obtain ⟨l, hl⟩ : ∃ l, l = ln ls k := ⟨_, rfl⟩
      rw [← hS, ← hN, ← hcd, ← hl] at HPu
      rw [← hS, ← hN] at HS
      rw [← hcd] at cc
      rw [← hl] at cz
      clear hS hN hcd hl ec
      go_wp2_with fail
      refine (HPu.out _).mono ?_
      rintro e w3 ⟨rfl, hb3⟩
      have HB3 := Lib.hid (hb.out.trans (hb3.mono hb.out.size))
      have HO3 := Lib.hid (own_below ho.out hb3)
      have HRD3 := Lib.hid (hrd.out.below hb3)
      have hqw3 : q < w3.heap.size := Nat.lt_of_lt_of_le hqw hb3.size
      have hw3 : w.heap.size ≤ w3.heap.size := HB3.out.size
      clear hb3 ho hrd hb c0 cc cz HPu hqw
      have b5 : Below w3.heap.size w3 ((w3.alloc (.cells #[.string S, .int .i64 N] 35)).alloc (.cells #[.string S, .int .i64 N] 35)) := ((Below.refl _ w3).alloc (Nat.le_refl _) _).alloc (by simp) _
      have HO5 := Lib.hid (own_below HO3.out b5)
      have HR5 : Hid (Rd ((w3.alloc (.cells #[.string S, .int .i64 N] 35)).alloc (.cells #[.string S, .int .i64 N] 35)) (some ⟨w3.heap.size + 1, 0, none⟩) [.string S, .int .i64 N]) := Lib.hid (by
        have h := Rd.new (w3.alloc (.cells #[.string S, .int .i64 N] 35)) #[.string S, .int .i64 N] 35
        have e : (w3.alloc (.cells #[.string S, .int .i64 N] 35)).heap.size = w3.heap.size + 1 := by simp
        rw [e] at h; exact h)
      have HON : Hid (∀ u ∈ [Value.string S, .int .i64 N], u.oneCell' = true) := Lib.hid (fun u hu => by
        rcases List.mem_cons.1 hu with rfl | hu
        · rfl
        · rw [List.mem_singleton.1 hu]; rfl)
      have HQ5 := Lib.hid (HRD3.out.below b5)
      have HB5 := Lib.hid (HB3.out.trans (b5.mono hw3))
      have hsz5 : ((w3.alloc (.cells #[.string S, .int .i64 N] 35)).alloc (.cells #[.string S, .int .i64 N] 35)).heap.size = w3.heap.size + 2 := by simp
      have HS5 := Lib.hid hsz5
      clear b5 hsz5 HO3 HRD3
      go_wp2_with (at_builtin; refine wpList_app rfl _ _ 69 rfl w.heap.size 35 i0 (.agg #[.string ⟨#[]⟩, .int .i64 0]) 2 24 Try.underlying69 hi0 hz0 hz1 hz2 rfl (by decide) _ k _ rfl _ 1 1 [.string S, .int .i64 N] rfl rfl HON.out (by unfold maxLen; omega) (by omega) HO5.out HR5.out (by rw [HS5.out]; omega) ?_)
      intro v6 w6 hown6 hgr6 hb6 hor6
      obtain ⟨g6, cap6, rfl⟩ := ownsRow_succ hown6
      have hs6 := hb6.size
      rw [← HS.out] at hown6
      have H1 := Lib.hid hown6
      have hne6 : g6 ≠ q := by
        rcases hor6 with h | h
        · have h2 : g6 = gl := Option.some.inj h
          omega
        · have h2 : g6 = _ := Option.some.inj h
          omega
      have H2 := Lib.hid (rd_grown HQ5.out hgr6 (fun r e => by have h2 : gl = r := Option.some.inj e; omega))
      have H3 := Lib.hid (HB5.out.trans hb6)
      have hq6 : q < w6.heap.size := by
        have := hgr6.size
        rw [HS5.out] at this
        omega
      clear hown6 hgr6 hb6 hor6 HO5 HR5 HQ5 HB5 HS5 HON HS
      go_wp2_with fail
      go_roundw
      case rel => exact ⟨k + 1, g6, cap6, by omega, rfl, by go_num, H1, hne6, hq6, H2, H3⟩
      case measure => simp [RowKit.intOf]; omega
    · obtain rfl : k = m := by omega
      have k1 : ¬ (k : Int) < (k : Int) := by omega
      have HM := Lib.hid (HEND.out wr _ (Rd.of_own ho.out))
      have hcap : k ≤ cap := by
        rcases ho.out.2 with ⟨h, _⟩ | ⟨g', c', cur, e, _, _, h1, _⟩
        · cases h
        · cases e; exact h1
      clear ho hrd c0 HEND
      go_wp2_with fail
      refine bodyPost_ret (v := .tuple #[.slice (some ⟨gl, 0, none⟩) k cap, .int .i64 0]) (by simp [results, Try.results64, go_sem]) rfl ?_
      exact ⟨_, _, rfl, hcap, HM.out, hb.out⟩
end Go.Proofs.Ytjnehpkkkmicfaa.Cn
namespace Go.Proofs.Ytjnehpkkkmicfaa.Cn
open Go.RowKit Go.Lib Rw Ls Od _root_.Go.Proofs.Ytjnehpkkkmicfaa.Nm Pk Bt Bk

noncomputable def wtV (ls : List Int) (sy : List Nat) (k : Nat) : List Value := mv ((sy.take k).map (ptR ls))
noncomputable def wtM (ls : List Int) (X : List Bool) (sy : List Nat) : Many := if errT ls X sy sy.length = 0 then sy.map (ptR ls) else []
def WtP (w : World) (n : Nat) (M : Many) (E : Int) (e : Ending) (w' : World) : Prop := ∃ (A : Option Addr) (c : Nat), e = .returned (.tuple #[.slice A n c, .int .i64 E]) ∧ ManyAt w' A M ∧ Below w.heap.size w w'
theorem wtp_mk {w w' : World} {n k : Nat} {M M' : Many} {E E' : Int} {A : Option Addr} {c : Nat} (hn : n = k) (hM : M = M') (hE : E = E') (h : ManyAt w' A M') (hb : Below w.heap.size w w') : WtP w n M E (.returned (.tuple #[.slice A k c, .int .i64 E'])) w' := by subst hn; subst hM; subst hE; exact ⟨A, c, rfl, h, hb⟩
theorem many_nil (w : World) (p : Option Addr) : ManyAt w p [] := fun i hi => by simp at hi
set_option maxHeartbeats 8000000 in
set_option maxRecDepth 100000 in
theorem written_any (ls : List Int) (X : List Bool) (sy : List Nat) (g : Nat) (p q : Option Addr) (c d : Nat) (w : World) (hw : Wk w g p ls.length c ls) (hp : Rd w p (zs ls)) (hr : Rt ls) (hX : X.length ≤ 1048576) (hq : Rd w q (nums sy)) (hl2 : sy.length ≤ 17592186044416) (hsb : ∀ x ∈ sy, x < 18446744073709551616) :
    Calls Try.prog 42 #[.pointer (some ⟨g, 0, none⟩), .int .i64 ((1048576 - X.length : Nat) : Int), .slice q sy.length d] w (WtP w (wtM ls X sy).length (wtM ls X sy) (errT ls X sy sy.length)) := by
  obtain ⟨i0, hi0, hz0, hz1, hz2⟩ := info_parts info_bit
  have hfew := hr.few
  have HPt := Lib.hid (parts_any ls g p c w hw hp hr)
  have HQ : Hid (∀ W, Below w.heap.size w W → Rd W q (nums sy)) := Lib.hid (fun W hb => hq.below hb)
  have HSB : Hid (∀ k, k < sy.length → sy.getD k 0 < 18446744073709551616) := Lib.hid (fun k hk => by rw [gd hk]; exact hsb _ (List.getElem_mem hk))
  have HAT : Hid (∀ x, x < ls.length → (ptM ls).at x = ptR ls x) := Lib.hid (fun x hx => ptM_at ls hx)
  have HLN : Hid (∀ x, x < ls.length → (ptR ls x).2 = (ln ls x : Int) ∧ ln ls x ≤ 15 ∧ (ls.getD x 0 = 0 ↔ ln ls x = 0) ∧ (ptR ls x).1.size ≤ maxLen) := Lib.hid (fun x hx => ⟨rfl, hr.ln15 hx, by have := hr.all x hx; unfold ln; omega, Nat.le_trans (nbits_small _ (hr.ln15 hx)) (by unfold maxLen; omega)⟩)
  have HPS : Hid (∀ x, (ptR ls x).1.size ≤ maxLen) := Lib.hid (fun x => by
    refine Nat.le_trans (nbits_small _ ?_) (by unfold maxLen; omega)
    rcases Nat.lt_or_ge x ls.length with h | h
    · exact hr.ln15 h
    · have : ls.getD x 0 = 0 := by rw [List.getD_eq_getElem?_getD, List.getElem?_eq_none h]; rfl
      unfold ln; rw [this]; omega)
  have HST : Hid (∀ k, k < sy.length → errT ls X sy k = 0 → (∀ E, stepE ls (bitsT ls X sy k).length (sy.getD k 0) = E → E ≠ 0 → (wtM ls X sy).length = 0 ∧ wtM ls X sy = [] ∧ errT ls X sy sy.length = E)) := Lib.hid (fun k hk h0 E hE hne => by
    have h := errT_stop h0 hE hne hk
    unfold wtM
    rw [h, if_neg hne]; exact ⟨rfl, rfl, rfl⟩)
  have HOK : Hid (errT ls X sy sy.length = 0 → (wtM ls X sy).length = sy.length ∧ wtM ls X sy = (sy.take sy.length).map (ptR ls)) := Lib.hid (fun h => by unfold wtM; rw [if_pos h, List.take_length]; simp)
  have HNX : Hid (∀ k, errT ls X sy k = 0 → errT ls X sy (k + 1) = stepE ls (bitsT ls X sy k).length (sy.getD k 0)) := Lib.hid (fun k h => errT_next h)
  have HBT : Hid (∀ k, k < sy.length → (bitsT ls X sy (k + 1)).length = (bitsT ls X sy k).length + ln ls (sy.getD k 0) ∧ (sy.take (k + 1)).map (ptR ls) = (sy.take k).map (ptR ls) ++ [ptR ls (sy.getD k 0)]) := Lib.hid (fun k hk => by
    refine ⟨by rw [bitsT_succ ls X sy hk, List.length_append, nbits_length], ?_⟩
    rw [List.take_succ_eq_append_getElem hk, gd hk, List.map_append]; rfl)
  have HLE : Hid (∀ k, k ≤ sy.length → errT ls X sy k = 0 → (bitsT ls X sy k).length ≤ 1048576) := Lib.hid (errT_len hX)
  have HB0 : Hid ((bitsT ls X sy 0).length = X.length) := Lib.hid (by rw [bitsT_zero])
  obtain ⟨m, hm⟩ : ∃ m, m = ls.length := ⟨_, rfl⟩
  obtain ⟨m2, hm2⟩ : ∃ m2, m2 = sy.length := ⟨_, rfl⟩
  obtain ⟨RL, hRL⟩ : ∃ RL, RL = (wtM ls X sy).length := ⟨_, rfl⟩
  obtain ⟨RM, hRM⟩ : ∃ RM, RM = wtM ls X sy := ⟨_, rfl⟩
  obtain ⟨RE, hRE⟩ : ∃ RE, RE = errT ls X sy sy.length := ⟨_, rfl⟩
  obtain ⟨x0, hx0⟩ : ∃ x0, x0 = X.length := ⟨_, rfl⟩
  rw [← hRL, ← hRM, ← hRE] at HST HOK ⊢
  rw [← hm] at hfew HPt HAT HLN
  rw [← hm2] at HSB HST HOK HBT HLE hl2 ⊢
  rw [← hx0] at HB0 hX ⊢
  have HM2 := Lib.hid hm2; have HM := Lib.hid hm; have HRE := Lib.hid hRE
  have HQL : Hid ((nums sy).length = m2) := Lib.hid (by rw [nums_length, hm2])
  have HPL : Hid ((ptM ls).length = m) := Lib.hid (by rw [ptM_length, hm])
  clear hw hp hr hq hsb hm hm2 hRL hRM hRE hx0
  go_enter Try.func42, Try.ntmps42
  go_wp2_with fail
  refine HPt.out.mono ?_
  rintro e w1 ⟨A, cA, rfl, hcA, hM, hb1⟩
  have HMA := Lib.hid hM
  have HB1 := Lib.hid hb1
  have hw1 := hb1.size
  have own0 : (w1.alloc (.cells #[] 35)).ownsRow w1.heap.size 35 2 (.slice (some ⟨w1.heap.size, 0, none⟩) 0 0) 0 [] :=
    World.ownsRow_lit (e := 35) (base := w1.heap.size) (size := 2) w1 #[] 0 (by omega) (by decide) rfl
  have HO0 := Lib.hid own0
  have HB2 : Hid (Below w1.heap.size w1 (w1.alloc (.cells #[] 35))) := Lib.hid ((Below.refl _ _).alloc (Nat.le_refl _) _)
  clear hM hb1 own0
  go_wp2_with fail
  obtain ⟨g1, hg1⟩ : ∃ g1, g1 = w1.heap.size := ⟨_, rfl⟩
  rw [← hg1] at HO0 HB2 hw1 ⊢
  have HG1 := Lib.hid hg1
  clear hg1
  have HQ1 : Hid (∀ W, Below g1 w1 W → Rd W q (nums sy) ∧ ManyAt W A (ptM ls) ∧ Below w.heap.size w W) := Lib.hid (fun W hb => by
    have h := HB1.out.trans (hb.mono hw1)
    exact ⟨HQ.out W h, HMA.out.below (by rw [← HG1.out]; exact hb), h⟩)
  go_loopw [1, 10, 25] (fun rv lv iv wr => ∃ (k gl cap N : Nat), k ≤ m2 ∧ k ≤ N ∧ N ≤ 1048576 ∧ Hid (N = (bitsT ls X sy k).length) ∧ rv = .int .i64 ((1048576 - N : Nat) : Int) ∧ lv = .slice (some ⟨gl, 0, none⟩) k cap ∧ iv = .int .i64 k ∧ Hid (errT ls X sy k = 0) ∧ Hid (wr.ownsRow g1 35 2 (.slice (some ⟨gl, 0, none⟩) k cap) k (wtV ls sy k)) ∧ Hid (Below g1 w1 wr)) (fun _ _ iv _ => m2 - (RowKit.intOf iv).toNat)
  case atStart => exact ⟨0, g1, 0, x0, by omega, by omega, hX, Lib.hid HB0.out.symm, rfl, rfl, rfl, Lib.hid rfl, HO0, HB2⟩
  case round =>
    clear HO0 HB2
    obtain ⟨k, gl, cap, N, hk, hkN, hN, hNE, rfl, rfl, rfl, he, ho, hb⟩ := hrel
    obtain ⟨hq1, hm1, hbw⟩ := HQ1.out wr hb.out
    by_cases hlt : k < m2
    · have k0 : (0 : Int) ≤ (k : Int) := by omega
      have k1 : (k : Int) < (m2 : Int) := by omega
      obtain ⟨bq, rfl, cq⟩ := rd_num hq1 k (by rw [← HM2.out]; exact hlt)
      have hxb := HSB.out k hlt
      have hst := HST.out k hlt he.out
      have hnx := HNX.out k he.out
      obtain ⟨hbl, hbm⟩ := HBT.out k hlt
      have hle := HLE.out (k + 1) (by omega)
      rw [hbl] at hle
      rw [← hNE.out] at hst hnx hle hbl
      obtain ⟨x, hx⟩ : ∃ x, x = sy.getD k 0 := ⟨_, rfl⟩
      rw [← hx] at cq hxb hst hnx hbl hbm hle
      have hsE : stepE ls N x = if m ≤ x then 1 else if ls.getD x 0 = 0 then 3 else if 1048576 < N + ln ls x then 8 else 0 := by rw [HM.out]; rfl
      have um : IntKind.u64.wrap (m : Int) = (m : Int) := u64_small (by omega) (by omega)
      have HBW := Lib.hid hbw
      by_cases g1x : m ≤ x
      · have F := Lib.hid (hst 1 (by rw [hsE, if_pos g1x]) (by decide))
        have f1 : decide ((m : Int) ≤ (x : Int)) = true := decide_eq_true (by omega)
        have f2 : decide (m ≤ x) = true := decide_eq_true g1x
        clear hq1 hm1 hbw hst hnx hbl hbm hle hsE ho hb he hx g1x
        go_wp2_with fail
        refine bodyPost_ret (v := .tuple #[.slice none 0 0, .int .i64 1]) (by simp [results, Try.results42, go_sem]) rfl ?_
        exact wtp_mk F.out.1 F.out.2.1 (F.out.2.2) (many_nil _ _) HBW.out
      have f1 : decide ((m : Int) ≤ (x : Int)) = false := decide_eq_false (by omega)
      have f2 : decide (m ≤ x) = false := decide_eq_false g1x
      have hxm : x < m := by omega
      obtain ⟨hln2, hln15, hlz, hps⟩ := HLN.out x hxm
      obtain ⟨gp, op, rfl, hgp, d0, d1, _⟩ := hm1 x (by rw [HPL.out]; exact hxm)
      rw [HAT.out x hxm] at d0 d1
      rw [hln2] at d1
      have HSV : Hid (ptR ls x = ((ptR ls x).1, (ln ls x : Int))) := Lib.hid rfl
      obtain ⟨S, hS⟩ : ∃ S, S = (ptR ls x).1 := ⟨_, rfl⟩
      rw [← hS] at d0 HSV
      obtain ⟨l, hl⟩ : ∃ l, l = ln ls x := ⟨_, rfl⟩
      rw [← hl] at d1 HSV hln15 hlz hbl hle hsE
      have x0 : (0 : Int) ≤ (x : Int) := by omega
      have x1 : (x : Int) < (m : Int) := by omega
      have HBA : Hid (Below w.heap.size w (wr.alloc (.cells #[.string S, .int .i64 (l : Int)] 35))) := Lib.hid (hbw.alloc hbw.size _)
      by_cases g3 : l = 0
      · have F := Lib.hid (hst 3 (by rw [hsE, if_neg g1x, if_pos (hlz.2 g3)]) (by decide))
        have e1 : ((l : Int) == 0) = true := by rw [beq_iff_eq]; omega
        have e2 : (l == 0) = true := by rw [beq_iff_eq]; exact g3
        clear hq1 hm1 hbw hst hnx hbl hbm hle hsE ho hb he hx g1x g3 hln2 hlz hS hl
        go_wp2_with fail
        refine bodyPost_ret (v := .tuple #[.slice none 0 0, .int .i64 3]) (by simp [results, Try.results42, go_sem]) rfl ?_
        exact wtp_mk F.out.1 F.out.2.1 (F.out.2.2) (many_nil _ _) HBA.out
      have e1 : ((l : Int) == 0) = false := by rw [beq_eq_false_iff_ne]; omega
      have e2 : (l == 0) = false := by rw [beq_eq_false_iff_ne]; exact g3
      by_cases g4 : 1048576 < N + l
      · have F := Lib.hid (hst 8 (by rw [hsE, if_neg g1x, if_neg (fun h => g3 (hlz.1 h)), if_pos g4]) (by decide))
        have t1 : decide (((1048576 - N : Nat) : Int) < (l : Int)) = true := decide_eq_true (by omega)
        have t2 : decide (1048576 - N < l) = true := decide_eq_true (by omega)
        clear hq1 hm1 hbw hst hnx hbl hbm hle hsE ho hb he hx g1x g3 g4 hln2 hlz hS hl
        go_wp2_with fail
        refine bodyPost_ret (v := .tuple #[.slice none 0 0, .int .i64 8]) (by simp [results, Try.results42, go_sem]) rfl ?_
        exact wtp_mk F.out.1 F.out.2.1 (F.out.2.2) (many_nil _ _) HBA.out
      · have t1 : decide (((1048576 - N : Nat) : Int) < (l : Int)) = false := decide_eq_false (by omega)
        have t2 : decide (1048576 - N < l) = false := decide_eq_false (by omega)
        have HE1 : Hid (errT ls X sy (k + 1) = 0) := Lib.hid (by rw [hnx, hsE, if_neg g1x, if_neg (fun h => g3 (hlz.1 h)), if_neg g4])
        have HN1 : Hid (N + l = (bitsT ls X sy (k + 1)).length) := Lib.hid hbl.symm
        have HNB : N + l ≤ 1048576 := by omega
        have hkN1 : k + 1 ≤ N + l := by omega
        have s1 : IntKind.i64.wrap (((1048576 - N : Nat) : Int) - (l : Int)) = ((1048576 - (N + l) : Nat) : Int) := by rw [show ((1048576 - N : Nat) : Int) - (l : Int) = ((1048576 - (N + l) : Nat) : Int) by omega]; exact IntWalk.i64_in _ (by omega)
        have HS : Hid (wtV ls sy (k + 1) = wtV ls sy k ++ [.string S, .int .i64 (l : Int)]) := Lib.hid (by unfold wtV; rw [hbm, mv_snoc, HSV.out])
        have b5 : Below wr.heap.size wr ((wr.alloc (.cells #[.string S, .int .i64 (l : Int)] 35)).alloc (.cells #[.string S, .int .i64 (l : Int)] 35)) := ((Below.refl _ wr).alloc (Nat.le_refl _) _).alloc (by simp) _
        have HO5 := Lib.hid (own_below ho.out b5)
        have HR5 : Hid (Rd ((wr.alloc (.cells #[.string S, .int .i64 (l : Int)] 35)).alloc (.cells #[.string S, .int .i64 (l : Int)] 35)) (some ⟨wr.heap.size + 1, 0, none⟩) [.string S, .int .i64 (l : Int)]) := Lib.hid (by
          have h := Rd.new (wr.alloc (.cells #[.string S, .int .i64 (l : Int)] 35)) #[.string S, .int .i64 (l : Int)] 35
          have e : (wr.alloc (.cells #[.string S, .int .i64 (l : Int)] 35)).heap.size = wr.heap.size + 1 := by simp
          rw [e] at h; exact h)
        have HON : Hid (∀ u ∈ [Value.string S, .int .i64 (l : Int)], u.oneCell' = true) := Lib.hid (fun u hu => by
          rcases List.mem_cons.1 hu with rfl | hu
          · rfl
          · rw [List.mem_singleton.1 hu]; rfl)
        have hgw : g1 ≤ wr.heap.size := by rw [HG1.out]; exact hb.out.size
        have HB5 := Lib.hid (hb.out.trans (b5.mono hgw))
        have HS5 : Hid (((wr.alloc (.cells #[.string S, .int .i64 (l : Int)] 35)).alloc (.cells #[.string S, .int .i64 (l : Int)] 35)).heap.size = wr.heap.size + 2) := Lib.hid (by simp)
        clear b5 hq1 hm1 hbw hst hnx hbl hbm hle hsE ho hb he hx g1x g3 g4 hln2 hlz hS hl hNE HBW HBA HSV
        go_wp2_with (at_builtin; refine wpList_app rfl _ _ 69 rfl g1 35 i0 (.agg #[.string ⟨#[]⟩, .int .i64 0]) 2 24 Try.underlying69 hi0 hz0 hz1 hz2 rfl (by decide) _ k _ rfl _ 1 1 [.string S, .int .i64 (l : Int)] rfl rfl HON.out (by unfold maxLen; omega) (by omega) HO5.out HR5.out (by rw [HS5.out]; omega) ?_)
        intro v6 w6 hown6 hgr6 hb6 hor6
        obtain ⟨g6, cap6, rfl⟩ := ownsRow_succ hown6
        rw [← HS.out] at hown6
        have H1 := Lib.hid hown6
        have H3 := Lib.hid (HB5.out.trans hb6)
        clear hown6 hgr6 hb6 hor6 HO5 HR5 HB5 HS5 HON HS
        go_wp2_with fail
        go_roundw
        case rel => exact ⟨k + 1, g6, cap6, N + l, by omega, hkN1, HNB, HN1, by first | rfl | go_num, rfl, by go_num, HE1, H1, H3⟩
        case measure => simp [RowKit.intOf]; omega
    · obtain rfl : k = m2 := by omega
      have k1 : ¬ (k : Int) < (k : Int) := by omega
      have HRE0 : Hid (RE = 0) := Lib.hid (by have h := he.out; rw [HM2.out] at h; rw [HRE.out]; exact h)
      have hok := HOK.out HRE0.out
      have HX : Hid (RL = k ∧ RM = (sy.take k).map (ptR ls)) := Lib.hid hok
      have HMX : Hid (ManyAt wr (some ⟨gl, 0, none⟩) ((sy.take k).map (ptR ls))) := Lib.hid (many_of (Rd.of_own ho.out) (fun i hi => by
        have hm : Bt.Many.at ((sy.take k).map (ptR ls)) i ∈ (sy.take k).map (ptR ls) := by
          unfold Bt.Many.at
          rw [List.getD_eq_getElem?_getD, List.getElem?_eq_getElem hi]; exact List.getElem_mem _
        obtain ⟨x, _, e⟩ := List.mem_map.1 hm
        rw [← e]
        exact HPS.out x))
      have HBW := Lib.hid hbw
      clear hq1 hm1 hbw ho hb he hok
      go_wp2_with fail
      refine bodyPost_ret (v := .tuple #[.slice (some ⟨gl, 0, none⟩) k cap, .int .i64 0]) (by simp [results, Try.results42, go_sem]) rfl ?_
      exact wtp_mk HX.out.1 HX.out.2 HRE0.out HMX.out HBW.out
end Go.Proofs.Ytjnehpkkkmicfaa.Cn
namespace Go.Proofs.Ytjnehpkkkmicfaa.Cn
open Go.RowKit Go.Lib Rw Ls Od _root_.Go.Proofs.Ytjnehpkkkmicfaa.Nm Pk Bt Bk

theorem bits_pack (Y : List Bool) : bl (Bt.bytes (packS Y)) Y.length = Y := by
  have h := (pack_packs Y).bitsOf
  have e : Bt.bytes (packS Y) = pack Y := by simp [Bt.bytes, packS]
  rw [e]; exact h
theorem chk_pack {Y : List Bool} (h : Y.length ≤ 1048576) : chk (packS Y) (Y.length : Int) = 0 := by
  unfold chk
  have e : Bt.bytes (packS Y) = pack Y := by simp [Bt.bytes, packS]
  rw [if_pos]
  rw [e]; exact (pack_packs Y).right h
theorem catF_zero : ∀ (M : Many) (t : Int), (∀ m ∈ M, chk m.1 m.2 = 0 ∧ 0 ≤ m.2) → t + sumN M ≤ 1048576 → catF t M = 0
  | [], _, _, _ => rfl
  | m :: M, t, h, hs => by
    have e : catF t (m :: M) = if chk m.1 m.2 ≠ 0 then 2 else if 1048576 < t + m.2 then 8 else catF (t + m.2) M := rfl
    have e2 : sumN (m :: M) = m.2 + sumN M := rfl
    have hp : ∀ L : Many, (∀ m ∈ L, chk m.1 m.2 = 0 ∧ 0 ≤ m.2) → 0 ≤ sumN L := by
      intro L
      induction L with
      | nil => intro _; exact Int.le_refl _
      | cons a L ih =>
        intro h
        have e3 : sumN (a :: L) = a.2 + sumN L := rfl
        have := ih fun x hx => h x (List.mem_cons_of_mem _ hx)
        have := (h a (List.mem_cons_self ..)).2
        omega
    have h1 := h m (List.mem_cons_self ..)
    have h2 := hp M fun x hx => h x (List.mem_cons_of_mem _ hx)
    rw [e, if_neg (by simp [h1.1]), if_neg (by omega)]
    exact catF_zero M _ (fun x hx => h x (List.mem_cons_of_mem _ hx)) (by omega)
theorem ptR_ok {ls : List Int} (hr : Rt ls) (x : Nat) : chk (ptR ls x).1 (ptR ls x).2 = 0 ∧ 0 ≤ (ptR ls x).2 := by
  refine ⟨?_, by show (0 : Int) ≤ (ln ls x : Int); omega⟩
  have h15 : ln ls x ≤ 15 := by
    rcases Nat.lt_or_ge x ls.length with h | h
    · exact hr.ln15 h
    · have : ls.getD x 0 = 0 := by rw [List.getD_eq_getElem?_getD, List.getElem?_eq_none h]; rfl
      unfold ln; rw [this]; omega
  have h := chk_pack (Y := nbits ((codes ls).getD x 0) (ln ls x)) (by rw [nbits_length]; omega)
  rw [nbits_length] at h; exact h
theorem cat_parts (ls : List Int) : ∀ sy : List Nat, catX (sy.map (ptR ls)) = (sy.map fun x => nbits ((codes ls).getD x 0) (ln ls x)).flatten ∧ sumN (sy.map (ptR ls)) = ((sy.map fun x => nbits ((codes ls).getD x 0) (ln ls x)).flatten.length : Int)
  | [] => ⟨rfl, rfl⟩
  | x :: sy => by
    obtain ⟨a, b⟩ := cat_parts ls sy
    have hb : bl (Bt.bytes (ptR ls x).1) ((ptR ls x).2).toNat = nbits ((codes ls).getD x 0) (ln ls x) := by
      have h := bits_pack (nbits ((codes ls).getD x 0) (ln ls x))
      rw [nbits_length] at h; exact h
    have e3 : sumN ((x :: sy).map (ptR ls)) = (ptR ls x).2 + sumN (sy.map (ptR ls)) := rfl
    refine ⟨?_, ?_⟩
    · rw [List.map_cons, catX_cons, a, hb]; rfl
    · rw [e3, b, List.map_cons, List.flatten_cons, List.length_append, nbits_length]
      show (ln ls x : Int) + _ = _
      omega
/-- symbols that are written have codes -/
theorem err_all {ls : List Int} {X : List Bool} {sy : List Nat} : ∀ k, k ≤ sy.length → errT ls X sy k = 0 → ∀ x ∈ sy.take k, x < ls.length ∧ ls.getD x 0 ≠ 0
  | 0, _, _, x, hx => by simp at hx
  | k + 1, hk, h, x, hx => by
    have h0 : errT ls X sy k = 0 := Decidable.byContradiction fun h2 => by
      have := errT_stay h2 1
      rw [h] at this; exact h2 this.symm
    rw [List.take_succ_eq_append_getElem hk, List.mem_append] at hx
    rcases hx with hx | hx
    · exact err_all k (by omega) h0 x hx
    · rw [List.mem_singleton] at hx
      rw [errT_next h0] at h
      have e : sy.getD k 0 = x := by rw [gd hk, hx]
      rw [e] at h
      unfold stepE at h
      split at h
      · cases h
      · split at h
        · cases h
        · exact ⟨by omega, by assumption⟩
theorem wr_cat {s : ByteArray} {n : Int} {ls : List Int} {sy : List Nat} (hc : chk s n = 0) (ok : okC ls) : catS s n (wtM ls (bl (Bt.bytes s) n.toNat) sy) = (wrR s n ls sy).1 ∧ catN s n (wtM ls (bl (Bt.bytes s) n.toNat) sy) = (wrR s n ls sy).2.1 ∧ catE s n (wtM ls (bl (Bt.bytes s) n.toNat) sy) = 0 ∧ errT ls (bl (Bt.bytes s) n.toNat) sy sy.length = (wrR s n ls sy).2.2 := by
  have hR := chk_zero hc
  have hr := rt_of ok
  have hxl : (bl (Bt.bytes s) n.toNat).length = n.toNat := bl_length _ _
  by_cases he : errT ls (bl (Bt.bytes s) n.toNat) sy sy.length = 0
  · have e : wtM ls (bl (Bt.bytes s) n.toNat) sy = sy.map (ptR ls) := by unfold wtM; rw [if_pos he]
    have hlen := errT_len (ls := ls) (X := bl (Bt.bytes s) n.toNat) (sy := sy) (by rw [hxl]; have := hR.2.1; omega) sy.length (Nat.le_refl _) he
    have hall := err_all (ls := ls) (X := bl (Bt.bytes s) n.toNat) (sy := sy) sy.length (Nat.le_refl _) he
    rw [List.take_length] at hall
    have hmp : (sy.map fun x => nbits ((codes ls).getD x 0) (ln ls x)) = sy.map fun x => nbits (code ls x) (ln ls x) := List.map_congr_left fun x hx => by
      obtain ⟨a, b⟩ := hall x hx
      rw [codes_at a (by have := hr.all x a; unfold ln; omega)]
    have hbt : bitsT ls (bl (Bt.bytes s) n.toNat) sy sy.length = bl (Bt.bytes s) n.toNat ++ catX (sy.map (ptR ls)) := by
      unfold bitsT
      rw [List.take_length, (cat_parts ls sy).1, hmp]
    have hsum : ((bitsT ls (bl (Bt.bytes s) n.toNat) sy sy.length).length : Int) = n + sumN (sy.map (ptR ls)) := by
      rw [hbt, List.length_append, hxl, (cat_parts ls sy).1, (cat_parts ls sy).2]; have := hR.1; omega
    have hF : catF n (sy.map (ptR ls)) = 0 := catF_zero _ _ (fun m hm => by
      obtain ⟨x, _, e⟩ := List.mem_map.1 hm
      rw [← e]; exact ptR_ok hr x) (by rw [← hsum]; omega)
    have hw : wrR s n ls sy = (packS (bitsT ls (bl (Bt.bytes s) n.toNat) sy sy.length), ((bitsT ls (bl (Bt.bytes s) n.toNat) sy sy.length).length : Int), 0) := by
      unfold wrR; rw [if_pos hc, if_pos ok, if_pos he]
    rw [e, hw]
    refine ⟨?_, ?_, ?_, he⟩
    · unfold catS; rw [if_neg (by omega), if_pos hF, hbt]
    · unfold catN; rw [if_neg (by omega), if_pos hF]; exact hsum.symm
    · unfold catE; rw [if_neg (by omega), hF]
  · have e : wtM ls (bl (Bt.bytes s) n.toNat) sy = [] := by unfold wtM; rw [if_neg he]
    have hw : wrR s n ls sy = (s, n, errT ls (bl (Bt.bytes s) n.toNat) sy sy.length) := by
      unfold wrR; rw [if_pos hc, if_pos ok, if_neg he]
    rw [e, hw]
    refine ⟨?_, ?_, ?_, rfl⟩
    · unfold catS; rw [if_neg (by omega), if_pos (show catF n [] = 0 from rfl)]
      show packS (bl (Bt.bytes s) n.toNat ++ []) = s
      rw [List.append_nil]; exact pack_self hc
    · unfold catN; rw [if_neg (by omega), if_pos (show catF n [] = 0 from rfl)]
      show n + 0 = n
      omega
    · unfold catE; rw [if_neg (by omega)]; rfl
set_option maxHeartbeats 8000000 in
set_option maxRecDepth 100000 in
theorem pwrite_any (s : ByteArray) (n : Int) (ls : List Int) (sy : List Nat) (p q : Option Addr) (c d : Nat) (w : World) (hs : s.size ≤ maxLen) (hp : Rd w p (zs ls)) (hq : Rd w q (nums sy)) (hl : ls.length ≤ 17592186044416) (hl2 : sy.length ≤ 17592186044416) (hsb : ∀ x ∈ sy, x < 18446744073709551616) :
    Calls Try.prog 19 #[.agg #[.string s, .int .i64 n], .slice p ls.length c, .slice q sy.length d] w (WrP w (wrR s n ls sy)) := by
  have hbx : Below w.heap.size w ((w.alloc (.cells #[.string s, .int .i64 n] 35)).alloc (.cells #[.string ⟨#[]⟩, .int .i64 0] 35)) := ((Below.refl _ _).alloc (Nat.le_refl _) _).alloc (by simp) _
  have HB := Lib.hid hbx
  have HC := Lib.hid (fun W => check_any s n W hs)
  have HK := Lib.hid (fun W (hb : Below w.heap.size w W) => pcheckc_any ls p c W (hp.below hb) hl)
  obtain ⟨m, hm⟩ : ∃ m, m = ls.length := ⟨_, rfl⟩
  obtain ⟨m2, hm2⟩ : ∃ m2, m2 = sy.length := ⟨_, rfl⟩
  rcases chk_cases s n with hc | hc
  case inr =>
    have F : Hid (wrR s n ls sy = (⟨#[]⟩, 0, 2)) := Lib.hid (by unfold wrR; rw [if_neg (by omega)])
    rw [hc] at HC
    rw [← hm] at HK ⊢
    rw [← hm2] at ⊢
    clear hc hm hp hl hq hl2 hsb hbx hm2
    go_enter Try.func19, Try.ntmps19
    go_wp2_with fail
    refine (HC.out _).mono ?_
    rintro e w1 ⟨rfl, b1⟩
    have x0 := (box_end b1).1; have x1 := (box_end b1).2
    have c0 := x0.c0; have c1 := x0.c1
    have q0 := x1.c0; have q1 := x1.c1; have p0 := x1.f0; have p1 := x1.f1
    have x2 := x1.set ⟨#[]⟩ 0
    have b2 := HB.out.trans (b1.mono (by simp; omega))
    have b3 := Lib.hid ((b2.setCell (p := ⟨w.heap.size + 1, 0, none⟩) (Nat.le_succ _) (.string ⟨#[]⟩)).setCell (p := ⟨w.heap.size + 1, 1, none⟩) (Nat.le_succ _) (.int .i64 0))
    have z0 := Lib.hid x2.c0; have z1 := Lib.hid x2.c1
    clear b1 b2 x0 x1 x2
    go_wp2_with fail
    refine bodyPost_ret (v := .tuple #[.agg #[.string ⟨#[]⟩, .int .i64 0], .int .i64 2]) (by simp [results, Try.results19, go_sem, z0.out, z1.out]) rfl ?_
    exact wrp_mk F.out b3.out
  have HC0 := Lib.hid hc
  have hR := chk_zero hc
  rw [hc] at HC
  by_cases hok : okC ls
  case neg =>
    have F : Hid (wrR s n ls sy = (⟨#[]⟩, 0, 7)) := Lib.hid (by unfold wrR; rw [if_pos HC0.out, if_neg hok])
    have F2 : Hid (chkC ls = 7) := Lib.hid (by unfold chkC; rw [if_neg hok])
    rw [← hm] at HK ⊢
    rw [← hm2] at ⊢
    clear hc hm hp hl hq hl2 hsb hbx hm2 hok hR
    go_enter Try.func19, Try.ntmps19
    go_wp2_with fail
    refine (HC.out _).mono ?_
    rintro e w1 ⟨rfl, b1⟩
    have X1 := Lib.hid (box_end b1).2
    have b2 := HB.out.trans (b1.mono (by simp; omega))
    have B2 := Lib.hid b2
    clear b1 b2
    go_wp2_with fail
    refine (HK.out _ B2.out).mono ?_
    rintro e w2 ⟨rfl, b3⟩
    rw [F2.out]
    have x1 := X1.out.below b3
    have q0 := x1.c0; have q1 := x1.c1; have p0 := x1.f0; have p1 := x1.f1
    have x2 := x1.set ⟨#[]⟩ 0
    have b4 := B2.out.trans (b3.mono B2.out.size)
    have b5 := Lib.hid ((b4.setCell (p := ⟨w.heap.size + 1, 0, none⟩) (Nat.le_succ _) (.string ⟨#[]⟩)).setCell (p := ⟨w.heap.size + 1, 1, none⟩) (Nat.le_succ _) (.int .i64 0))
    have z0 := Lib.hid x2.c0; have z1 := Lib.hid x2.c1
    clear b3 b4 x1 x2
    go_wp2_with fail
    refine bodyPost_ret (v := .tuple #[.agg #[.string ⟨#[]⟩, .int .i64 0], .int .i64 7]) (by simp [results, Try.results19, go_sem, z0.out, z1.out]) rfl ?_
    exact wrp_mk F.out b5.out
  have F2 : Hid (chkC ls = 0) := Lib.hid (by unfold chkC; rw [if_pos hok])
  have hr := rt_of hok
  obtain ⟨k1, k2, k3, k4⟩ := wr_cat (sy := sy) hc hok
  obtain ⟨N, rfl⟩ : ∃ N : Nat, n = (N : Int) := ⟨n.toNat, by have := hR.1; omega⟩
  have hN : N ≤ 1048576 := by have := hR.2.1; omega
  have hxl : (bl (Bt.bytes s) N).length = N := bl_length _ _
  simp only [Int.toNat_natCast] at k1 k2 k3 k4
  obtain ⟨M, hM⟩ : ∃ M, M = wtM ls (bl (Bt.bytes s) N) sy := ⟨_, rfl⟩
  obtain ⟨o, ho⟩ : ∃ o, o = wrR s N ls sy := ⟨_, rfl⟩
  rw [← hM, ← ho] at k1 k2
  rw [← hM] at k3
  rw [← ho] at k4
  obtain ⟨R, RN, E⟩ := o
  have HN : Hid (∀ W, Below w.heap.size w W → Calls Try.prog 32 #[.slice p ls.length c] W fun e w' => ∃ g, e = .returned (.pointer (some ⟨g, 0, none⟩)) ∧ W.heap.size ≤ g ∧ Wk w' g p ls.length c ls ∧ Below W.heap.size W w') := Lib.hid (fun W hb => begin_any ls p c W (hp.below hb) hr)
  have HW : Hid (∀ W g, Below w.heap.size w W → Wk W g p ls.length c ls → Calls Try.prog 42 #[.pointer (some ⟨g, 0, none⟩), .int .i64 ((1048576 - N : Nat) : Int), .slice q sy.length d] W (WtP W M.length M E)) := Lib.hid (fun W g hb hw => by
    have h := written_any ls (bl (Bt.bytes s) N) sy g p q c d W hw (hp.below hb) hr (by rw [hxl]; exact hN) (hq.below hb) hl2 hsb
    rw [hxl, ← hM, k4] at h
    exact h)
  have hMl : M.length ≤ maxLen := by
    rw [hM]; unfold wtM maxLen
    split
    · rw [List.length_map]; omega
    · simp
  have HCa : Hid (∀ W A cap, ManyAt W A M → Calls Try.prog 43 #[.agg #[.string s, .int .i64 (N : Int)], .slice A M.length cap] W fun e w' => e = .returned (.tuple #[.agg #[.string R, .int .i64 RN], .int .i64 0]) ∧ Below W.heap.size W w') := Lib.hid (fun W A cap h => by
    have h := cat_any s N A cap M W hs h hMl
    rw [k1, k2, k3] at h
    exact h)
  have F : Hid (wrR s N ls sy = (R, RN, E)) := Lib.hid ho.symm
  rw [← hm] at HK HN HW ⊢
  rw [← hm2] at HW ⊢
  have s1 : IntKind.i64.wrap ((1048576 : Int) - (N : Int)) = ((1048576 - N : Nat) : Int) := by rw [show (1048576 : Int) - (N : Int) = ((1048576 - N : Nat) : Int) by omega]; exact IntWalk.i64_in _ (by omega)
  clear hc hm hp hl hq hl2 hsb hbx hm2 hok hR k1 k2 k3 k4 hxl hM ho hMl hr
  go_enter Try.func19, Try.ntmps19
  go_wp2_with fail
  refine (HC.out _).mono ?_
  rintro e w1 ⟨rfl, b1⟩
  have X0 := Lib.hid (box_end b1).1; have X1 := Lib.hid (box_end b1).2
  have B2 := Lib.hid (HB.out.trans (b1.mono (by simp; omega)))
  clear b1
  go_wp2_with fail
  refine (HK.out _ B2.out).mono ?_
  rintro e w2 ⟨rfl, b3⟩
  rw [F2.out]
  have Y0 := Lib.hid (X0.out.below b3); have Y1 := Lib.hid (X1.out.below b3)
  have B3 := Lib.hid (B2.out.trans (b3.mono B2.out.size))
  clear b3 X0 X1 B2
  go_wp2_with fail
  obtain ⟨BB, hBB⟩ : ∃ BB : World → Prop, BB = fun W => Box W w.heap.size s (N : Int) ∧ Box W (w.heap.size + 1) ⟨#[]⟩ 0 ∧ Below w.heap.size w W := ⟨_, rfl⟩
  have hL : ∀ W W', BB W → Below W.heap.size W W' → BB W' := fun W W' h hb => by
    rw [hBB] at h ⊢
    exact ⟨h.1.below hb, h.2.1.below hb, h.2.2.trans (hb.mono h.2.2.size)⟩
  have hD : ∀ W, BB W → BB W.drew := fun W h => hL W _ h (Below.drew (Below.refl _ W))
  have hK2 : ∀ W, BB W → BB W ∧ W.cell? ⟨w.heap.size, 1, none⟩ = some (.int .i64 (N : Int)) := fun W h => by
    refine ⟨h, ?_⟩
    rw [hBB] at h
    exact h.1.c1
  have hE : ∀ W, BB W → Box W w.heap.size s (N : Int) ∧ Box W (w.heap.size + 1) ⟨#[]⟩ 0 ∧ Below w.heap.size w W := fun W h => by rw [hBB] at h; exact h
  have hNb : ∀ W, BB W → Calls Try.prog 32 #[.slice p m c] W fun e w' => ∃ g, e = .returned (.pointer (some ⟨g, 0, none⟩)) ∧ W.heap.size ≤ g ∧ Wk w' g p m c ls ∧ Below W.heap.size W w' := fun W h => HN.out W (hE W h).2.2
  have hWb : ∀ W g, BB W → Wk W g p m c ls → Calls Try.prog 42 #[.pointer (some ⟨g, 0, none⟩), .int .i64 ((1048576 - N : Nat) : Int), .slice q m2 d] W (WtP W M.length M E) := fun W g h hw => HW.out W g (hE W h).2.2 hw
  have h0 : BB w2 := by rw [hBB]; exact ⟨Y0.out, Y1.out, B3.out⟩
  have hWD : ∀ W g, Wk W g p m c ls → Wk W.drew g p m c ls := fun W g h => h
  have HL := Lib.hid hL; have HD := Lib.hid hD; have HK2 := Lib.hid hK2; have HE := Lib.hid hE; have HNb := Lib.hid hNb; have HWb := Lib.hid hWb; have H0 := Lib.hid h0; have HWD := Lib.hid hWD
  clear hBB hL hD hK2 hE hNb hWb h0 hWD HN HW Y0 Y1 B3
  obtain ⟨q0, q1⟩ := HK2.out _ H0.out
  go_region_held3 (fun W => BB W ∧ W.cell? ⟨w.heap.size, 1, none⟩ = some (.int .i64 (N : Int))) ((refine HK2.out _ ?_; repeat (first | exact H0.out | assumption | apply HD.out))) (first
    | (go_at_call 32; ((with_reducible refine (HNb.out _ ?_).mono ?_)); (repeat (first | exact H0.out | assumption | apply HD.out)); rintro e w' ⟨gg, rfl, -, hwk, hb'⟩; have hw := HL.out _ _ (by repeat (first | exact H0.out | assumption | apply HD.out)) hb'; clear hb')
    | (go_at_call 42; ((with_reducible refine (HWb.out _ _ ?_ ?_).mono ?_)); (repeat (first | exact H0.out | assumption | apply HD.out | apply HWD.out)); rintro e w' ⟨A, cA, rfl, hma, hb'⟩; have hw2 := HL.out _ _ (by repeat (first | exact H0.out | assumption | apply HD.out)) hb'; clear hb'))
  all_goals (
    obtain ⟨v0, v1, v2⟩ := HE.out _ hw2
    have HMA := Lib.hid hma
    have V1 := Lib.hid v1; have V2 := Lib.hid v2
    have c0 := v0.c0; have c1 := v0.c1
    clear v0 v1 v2 hma hw2 hw hwk HL HD HK2 HE HNb HWb H0 HWD q0 q1
    go_wp2_with fail
    refine (HCa.out _ _ _ HMA.out).mono ?_
    rintro e w5 ⟨rfl, b5⟩
    have y1 := V1.out.below b5
    have y2 := y1.alloc (.cells #[.string R, .int .i64 RN] 35)
    have b6 := (V2.out.trans (b5.mono V2.out.size))
    have b7 := (b6.setCell (p := ⟨w.heap.size + 1, 0, none⟩) (Nat.le_succ _) (.string R)).setCell (p := ⟨w.heap.size + 1, 1, none⟩) (Nat.le_succ _) (.int .i64 RN)
    have hz := (y1.set R RN).alloc (.cells #[.string R, .int .i64 RN] 35)
    have z0 := Lib.hid hz.c0; have z1 := Lib.hid hz.c1
    have HBF := Lib.hid (b7.alloc b7.size (.cells #[.string R, .int .i64 RN] 35))
    have y3 := y2.c0; have y4 := y2.c1; have y5 := y2.f0; have y6 := y2.f1
    have ylt := y1.lt
    have yne : ¬ (w.heap.size + 1 = w5.heap.size) := by omega
    have u3 := y1.c0; have u4 := y1.c1; have u5 := y1.f0; have u6 := y1.f1
    clear b5 b6 b7 hz y1 y2 c0 c1 V1 V2 HMA
    go_wp2_with fail
    refine bodyPost_ret (v := .tuple #[.agg #[.string R, .int .i64 RN], .int .i64 E]) (by simp [results, Try.results19, go_sem, z0.out, z1.out]) rfl ?_
    exact wrp_mk F.out HBF.out)
end Go.Proofs.Ytjnehpkkkmicfaa.Cn
namespace Go.Proofs.Ytjnehpkkkmicfaa.Cn
end Go.Proofs.Ytjnehpkkkmicfaa.Cn
namespace Go.Proofs.Ytjnehpkkkmicfaa.Cn
open Go.RowKit Go.Lib Rw Ls Od _root_.Go.Proofs.Ytjnehpkkkmicfaa.Nm Pk Bt

def lv0 : List Int := [2, 1, 0, 2]
theorem ok0 : okC lv0 := by decide +kernel
theorem ce1 : codesR lv0 = ([2, 0, 0, 3], 0) := by decide +kernel
theorem fe1 : findR lv0 2 2 = (0, 0) := by decide +kernel
theorem he1 : chkC lv0 = 0 ∧ chkC [1, 1, 1] = 7 := by decide +kernel
theorem re1 : rdR ⟨#[208]⟩ 5 2 lv0 = (1, 3, 0) := by decide +kernel
theorem re2 : rdR ⟨#[208]⟩ 5 4 lv0 = (1, 5, 0) := by decide +kernel
theorem re3 : rdR ⟨#[128]⟩ 1 0 [1] = (0, 0, 7) := by decide +kernel
theorem we1 : wrR ⟨#[]⟩ 0 lv0 [3, 1, 0] = (⟨#[208]⟩, 5, 0) := by
  have h1 : chk ⟨#[]⟩ 0 = 0 := by decide +kernel
  have h2 : errT lv0 (bl (Bt.bytes ⟨#[]⟩) (0 : Int).toNat) [3, 1, 0] ([3, 1, 0] : List Nat).length = 0 := by decide +kernel
  have h3 : bitsT lv0 (bl (Bt.bytes ⟨#[]⟩) (0 : Int).toNat) [3, 1, 0] ([3, 1, 0] : List Nat).length = [true, true, false, true, false] := by decide +kernel
  unfold wrR
  rw [if_pos h1, if_pos ok0, if_pos h2, h3]
  rw [packS_of (l := [208]) (packs_of (by decide +kernel) (by decide +kernel))]
  rfl
theorem we2 : wrR ⟨#[208]⟩ 5 lv0 [2] = (⟨#[208]⟩, 5, 3) := by
  have h1 : chk ⟨#[208]⟩ 5 = 0 := by decide +kernel
  have h2 : errT lv0 (bl (Bt.bytes ⟨#[208]⟩) (5 : Int).toNat) [2] ([2] : List Nat).length = 3 := by decide +kernel
  unfold wrR
  rw [if_pos h1, if_pos ok0, h2, if_neg (by decide)]
/-- numbers in memory, how many being a number -/
def NUn (W : World) (n : Nat) (L : List Nat) (r : Int) (e : Ending) (w' : World) : Prop := ∃ (q : Option Addr) (c : Nat), e = .returned (.tuple #[.slice q n c, .int .i64 r]) ∧ n ≤ c ∧ Rd w' q (nums L) ∧ Below W.heap.size W w'
theorem nun_of {W : World} {n : Nat} {o : List Nat × Int} {L : List Nat} {r : Int} (h : o = (L, r)) (hn : L.length = n) {f : FuncId} {a : Array Value} {P : Program} (hc : Calls P f a W (NU W o)) : Calls P f a W (NUn W n L r) := by subst h; subst hn; exact hc
set_option maxHeartbeats 4000000 in
set_option maxRecDepth 100000 in
theorem lives_any (w : World) : Calls Try.prog 11 #[] w fun e w' => e = .returned (.bool true) ∧ Below w.heap.size w w' := by
  have CA : Hid (∀ q c W, Rd W q (zs lv0) → Calls Try.prog 12 #[.slice q 4 c] W (NUn W 4 [2, 0, 0, 3] 0)) := Lib.hid (fun q c W h => nun_of ce1 rfl (pcodes_any lv0 q c W h (by decide)))
  have CB : Hid (∀ p c q d W, Rd W p (zs lv0) → Rd W q (nums [3, 1, 0]) → Calls Try.prog 19 #[.agg #[.string ⟨#[]⟩, .int .i64 0], .slice p 4 c, .slice q 3 d] W (WrP W (⟨#[208]⟩, 5, 0))) := Lib.hid (fun p c q d W h1 h2 => by
    rw [← we1]; exact pwrite_any ⟨#[]⟩ 0 lv0 [3, 1, 0] p q c d W (by decide) h1 h2 (by decide) (by decide) (by decide))
  have CC : Hid (∀ p c W, Rd W p (zs lv0) → Calls Try.prog 21 #[.agg #[.string ⟨#[208]⟩, .int .i64 5], .int .i64 2, .slice p 4 c] W (RdP W (1, 3, 0))) := Lib.hid (fun p c W h1 => by
    rw [← re1]; exact pread_any ⟨#[208]⟩ 5 2 lv0 p c W (by decide) h1 (by decide))
  have CD : Hid (∀ p c W, Rd W p (zs lv0) → Calls Try.prog 14 #[.slice p 4 c, .int .u64 2, .int .i64 2] W fun e w' => e = .returned (.tuple #[.int .i64 0, .int .i64 0]) ∧ Below W.heap.size W w') := Lib.hid (fun p c W h1 => by
    have h := pfindc_any lv0 2 2 p c W h1 (by decide) (by decide)
    rw [fe1] at h
    exact h)
  have CE : Hid (∀ p c q d W, Rd W p (zs lv0) → Rd W q (nums [2]) → Calls Try.prog 19 #[.agg #[.string ⟨#[208]⟩, .int .i64 5], .slice p 4 c, .slice q 1 d] W (WrP W (⟨#[208]⟩, 5, 3))) := Lib.hid (fun p c q d W h1 h2 => by
    rw [← we2]; exact pwrite_any ⟨#[208]⟩ 5 lv0 [2] p q c d W (by decide) h1 h2 (by decide) (by decide) (by decide))
  have CF : Hid (∀ p c W, Rd W p (zs lv0) → Calls Try.prog 21 #[.agg #[.string ⟨#[208]⟩, .int .i64 5], .int .i64 4, .slice p 4 c] W (RdP W (1, 5, 0))) := Lib.hid (fun p c W h1 => by
    rw [← re2]; exact pread_any ⟨#[208]⟩ 5 4 lv0 p c W (by decide) h1 (by decide))
  have CG : Hid (∀ p c W, Rd W p (zs [1]) → Calls Try.prog 21 #[.agg #[.string ⟨#[128]⟩, .int .i64 1], .int .i64 0, .slice p 1 c] W (RdP W (0, 0, 7))) := Lib.hid (fun p c W h1 => by
    rw [← re3]; exact pread_any ⟨#[128]⟩ 1 0 [1] p c W (by decide) h1 (by decide))
  have CH : Hid (∀ p c W, Rd W p (zs lv0) → Calls Try.prog 17 #[.slice p 4 c] W fun e w' => e = .returned (.int .i64 0) ∧ Below W.heap.size W w') := Lib.hid (fun p c W h1 => by
    have h := pcheckc_any lv0 p c W h1 (by decide)
    rw [he1.1] at h
    exact h)
  have CI : Hid (∀ p c W, Rd W p (zs [1, 1, 1]) → Calls Try.prog 17 #[.slice p 3 c] W fun e w' => e = .returned (.int .i64 7) ∧ Below W.heap.size W w') := Lib.hid (fun p c W h1 => by
    have h := pcheckc_any [1, 1, 1] p c W h1 (by decide)
    rw [he1.2] at h
    exact h)
  have CS : Hid (∀ (L : List Nat) (n : Nat), L.length = n → n ≤ 6 → ∀ p c q d W, Rd W p (nums L) → Rd W q (nums L) → Calls Try.prog 16 #[.slice p n c, .slice q n d] W fun e w' => e = .returned (.bool true) ∧ Below W.heap.size W w') := Lib.hid (fun L n hl hn p c q d W h1 h2 => by
    subst hl
    refine (sameOne_any L L p q c d W h1 h2 (by omega) (by omega)).mono ?_
    rintro e w' ⟨rfl, j, rfl⟩
    exact ⟨by rw [decide_eq_true rfl], below_drewN (Below.refl _ _) j⟩)
  have RL0 : Hid (Rd (w.alloc (.cells #[.int .i64 2, .int .i64 1, .int .i64 0, .int .i64 2] 3)) (some ⟨w.heap.size, 0, none⟩) (zs lv0)) := Lib.hid (Rd.new w #[.int .i64 2, .int .i64 1, .int .i64 0, .int .i64 2] _)
  have B : Hid (Below w.heap.size w w) := Lib.hid (Below.refl _ _)
  go_enter Try.func11, Try.ntmps11
  go_wp2_with fail
  refine (CA.out _ _ _ RL0.out).mono ?_
  rintro e w0 ⟨q1, c1, rfl, hc1, r1, b⟩
  replace B := Lib.hid ((B.out.alloc (B.out.size) _).trans (b.mono (B.out.alloc (B.out.size) _).size))
  have RL := Lib.hid (RL0.out.below b)
  have R1 := Lib.hid r1
  clear b r1 RL0
  go_wp2_with fail
  refine (CB.out _ _ _ _ _ (RL.out.alloc _) (Rd.new _ #[.int .u64 3, .int .u64 1, .int .u64 0] _)).mono ?_
  rintro e w1 ⟨rfl, b⟩
  replace RL := Lib.hid ((RL.out.alloc _).below b)
  replace R1 := Lib.hid ((R1.out.alloc _).below b)
  replace B := Lib.hid ((B.out.alloc (B.out.size) _).trans (b.mono (B.out.alloc (B.out.size) _).size))
  clear b
  have BX : Hid (Box (w1.alloc (.cells #[.string ⟨#[208]⟩, .int .i64 5] 35)) w1.heap.size ⟨#[208]⟩ 5) := Lib.hid (Box.new w1 ⟨#[208]⟩ 5)
  replace RL := Lib.hid (RL.out.alloc (.cells #[.string ⟨#[208]⟩, .int .i64 5] 35))
  replace R1 := Lib.hid (R1.out.alloc (.cells #[.string ⟨#[208]⟩, .int .i64 5] 35))
  replace B := Lib.hid (B.out.alloc B.out.size (.cells #[.string ⟨#[208]⟩, .int .i64 5] 35))
  obtain ⟨gb, hgb⟩ : ∃ gb, gb = w1.heap.size := ⟨_, rfl⟩
  go_wp2_with fail
  refine (CC.out _ _ _ RL.out).mono ?_
  rintro e w2 ⟨rfl, b⟩
  replace RL := Lib.hid (RL.out.below b)
  replace R1 := Lib.hid (R1.out.below b)
  replace BX := Lib.hid (BX.out.below b)
  replace B := Lib.hid (B.out.trans (b.mono B.out.size))
  clear b
  go_wp2_with fail
  refine (CD.out _ _ _ RL.out).mono ?_
  rintro e w3 ⟨rfl, b⟩
  replace RL := Lib.hid (RL.out.below b)
  replace R1 := Lib.hid (R1.out.below b)
  replace BX := Lib.hid (BX.out.below b)
  replace B := Lib.hid (B.out.trans (b.mono B.out.size))
  clear b
  have b0 := BX.out.c0; have b1 := BX.out.c1
  go_wp2_with fail
  clear b0 b1
  refine (CE.out _ _ _ _ _ (RL.out.alloc _) (Rd.new _ #[.int .u64 2] _)).mono ?_
  rintro e w4 ⟨rfl, b⟩
  replace RL := Lib.hid ((RL.out.alloc _).below b)
  replace R1 := Lib.hid ((R1.out.alloc _).below b)
  replace BX := Lib.hid ((BX.out.alloc _).below b)
  replace B := Lib.hid ((B.out.alloc (B.out.size) _).trans (b.mono (B.out.alloc (B.out.size) _).size))
  clear b
  replace RL := Lib.hid (RL.out.alloc (.cells #[.string ⟨#[208]⟩, .int .i64 5] 35))
  replace R1 := Lib.hid (R1.out.alloc (.cells #[.string ⟨#[208]⟩, .int .i64 5] 35))
  replace BX := Lib.hid (BX.out.alloc (.cells #[.string ⟨#[208]⟩, .int .i64 5] 35))
  replace B := Lib.hid (B.out.alloc B.out.size (.cells #[.string ⟨#[208]⟩, .int .i64 5] 35))
  have b0 := BX.out.c0; have b1 := BX.out.c1
  go_wp2_with fail
  clear b0 b1
  refine (CF.out _ _ _ RL.out).mono ?_
  rintro e w5 ⟨rfl, b⟩
  replace RL := Lib.hid (RL.out.below b)
  replace R1 := Lib.hid (R1.out.below b)
  replace BX := Lib.hid (BX.out.below b)
  replace B := Lib.hid (B.out.trans (b.mono B.out.size))
  clear b
  go_wp2_with fail
  refine (CG.out _ _ _ (Rd.new _ #[.int .i64 1] _)).mono ?_
  rintro e w6 ⟨rfl, b⟩
  replace RL := Lib.hid ((RL.out.alloc _).below b)
  replace R1 := Lib.hid ((R1.out.alloc _).below b)
  replace BX := Lib.hid ((BX.out.alloc _).below b)
  replace B := Lib.hid ((B.out.alloc (B.out.size) _).trans (b.mono (B.out.alloc (B.out.size) _).size))
  clear b
  go_wp2_with fail
  refine (CS.out [2, 0, 0, 3] 4 rfl (by omega) _ _ _ _ _ (R1.out.alloc _) (Rd.new _ #[.int .u64 2, .int .u64 0, .int .u64 0, .int .u64 3] _)).mono ?_
  rintro e w7 ⟨rfl, b⟩
  replace RL := Lib.hid ((RL.out.alloc _).below b)
  replace R1 := Lib.hid ((R1.out.alloc _).below b)
  replace BX := Lib.hid ((BX.out.alloc _).below b)
  replace B := Lib.hid ((B.out.alloc (B.out.size) _).trans (b.mono (B.out.alloc (B.out.size) _).size))
  clear b
  have b0 := BX.out.c0; have b1 := BX.out.c1
  go_wp2_with fail
  clear b0 b1
  refine (CI.out _ _ _ (Rd.new _ #[.int .i64 1, .int .i64 1, .int .i64 1] _)).mono ?_
  rintro e w8 ⟨rfl, b⟩
  replace RL := Lib.hid ((RL.out.alloc _).below b)
  replace R1 := Lib.hid ((R1.out.alloc _).below b)
  replace BX := Lib.hid ((BX.out.alloc _).below b)
  replace B := Lib.hid ((B.out.alloc (B.out.size) _).trans (b.mono (B.out.alloc (B.out.size) _).size))
  clear b
  go_wp2_with fail
  refine (CH.out _ _ _ RL.out).mono ?_
  rintro e w9 ⟨rfl, b⟩
  replace RL := Lib.hid (RL.out.below b)
  replace R1 := Lib.hid (R1.out.below b)
  replace BX := Lib.hid (BX.out.below b)
  replace B := Lib.hid (B.out.trans (b.mono B.out.size))
  clear b
  go_wp2_with fail
  go_ret
  exact ⟨rfl, B.out⟩
end Go.Proofs.Ytjnehpkkkmicfaa.Cn
