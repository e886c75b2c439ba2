/- The walk of package pack's levels. -/
import Derived.Test.YtbegngilbngnoaaPsE
namespace Go.Proofs.Ytbegngilbngnoaa.Ps
open Go.RowKit Go.Lib Rw Ls Od Pk St _root_.Go.Proofs.Ytbegngilbngnoaa.Nm
open Go.Sort (grow)

theorem info_row : (Try.prog.info? 53).map (fun i => (i.zero, i.size, i.bytes)) = some (some (.slice none 0 0), 1, 24) := by kernel_rfl
/-- where levels lie, from the first one on -/
def ovs (V : Nat → Nat) (L : List Nat) (gs : List (Nat × Nat)) : List Value := (List.range gs.length).map fun j => .slice (some ⟨(gs.getD j (0, 0)).1, 0, none⟩) (lev V L j).length (gs.getD j (0, 0)).2
theorem ovs_length (V : Nat → Nat) (L : List Nat) (gs : List (Nat × Nat)) : (ovs V L gs).length = gs.length := by simp [ovs]
theorem ovs_at (V : Nat → Nat) (L : List Nat) (gs : List (Nat × Nat)) {j : Nat} (h : j < gs.length) : (ovs V L gs).getD j (.bool false) = .slice (some ⟨(gs.getD j (0, 0)).1, 0, none⟩) (lev V L j).length (gs.getD j (0, 0)).2 := by simp [ovs, h]
theorem ovs_snoc (V : Nat → Nat) (L : List Nat) (gs : List (Nat × Nat)) (x : Nat × Nat) : ovs V L (gs ++ [x]) = ovs V L gs ++ [.slice (some ⟨x.1, 0, none⟩) (lev V L gs.length).length x.2] := by
  unfold ovs
  rw [List.length_append, List.length_singleton, List.range_succ, List.map_append]
  congr 1
  · apply List.map_congr_left
    intro j hj
    have := List.mem_range.1 hj
    simp [List.getElem?_append_left this]
  · simp
def LvsAt (w : World) (V : Nat → Nat) (L : List Nat) (gs : List (Nat × Nat)) : Prop := ∀ j, j < gs.length → Rd w (some ⟨(gs.getD j (0, 0)).1, 0, none⟩) (pcs V (lev V L j)) ∧ (lev V L j).length ≤ (gs.getD j (0, 0)).2
theorem LvsAt.below {w w' : World} {V : Nat → Nat} {L : List Nat} {gs : List (Nat × Nat)} (h : LvsAt w V L gs) (hb : Below w.heap.size w w') : LvsAt w' V L gs := fun j hj => ⟨(h j hj).1.below hb, (h j hj).2⟩
theorem LvsAt.snoc {w : World} {V : Nat → Nat} {L : List Nat} {gs : List (Nat × Nat)} {g cap : Nat} (h : LvsAt w V L gs) (hr : Rd w (some ⟨g, 0, none⟩) (pcs V (lev V L gs.length))) (hc : (lev V L gs.length).length ≤ cap) : LvsAt w V L (gs ++ [(g, cap)]) := fun j hj => by
  rw [List.length_append, List.length_singleton] at hj
  by_cases e : j < gs.length
  · have : (gs ++ [(g, cap)]).getD j (0, 0) = gs.getD j (0, 0) := by simp [List.getElem?_append_left e]
    rw [this]; exact h j e
  · obtain rfl : j = gs.length := by omega
    have : (gs ++ [(g, cap)]).getD gs.length (0, 0) = (g, cap) := by simp
    rw [this]; exact ⟨hr, hc⟩
/-- levels, new -/
def LsP (w : World) (V : Nat → Nat) (L : List Nat) (lm : Nat) (e : Ending) (w' : World) : Prop := ∃ (ga cap : Nat) (gs : List (Nat × Nat)), e = .returned (.slice (some ⟨ga, 0, none⟩) lm cap) ∧ gs.length = lm ∧ Rd w' (some ⟨ga, 0, none⟩) (ovs V L gs) ∧ LvsAt w' V L gs ∧ w.heap.size ≤ ga ∧ Below w.heap.size w w'
theorem wt_ok {ws : List Nat} (ho : okW ws = true) {j : Nat} (hj : j ≤ 15) : ∀ t ∈ lev (wf ws) (lv ws) j, t.wt (wf ws) ≤ 4000000000000000000 := fun t ht => by
  have h1 := lev_sz j t ht
  have h2 := wt_sz (W := wf ws) (m := 1099511627776) (fun i => okW_at ho i) t
  have h3 : 2 ^ j ≤ 2 ^ 15 := Nat.pow_le_pow_right (by omega) hj
  have h4 : t.sz * 1099511627776 ≤ 2 ^ 15 * 1099511627776 := Nat.mul_le_mul_right _ (Nat.le_trans h1 h3)
  have h5 : 2 ^ 15 * 1099511627776 ≤ 4000000000000000000 := by decide
  omega
theorem leaf_row (V : Nat → Nat) (L : List Nat) (k : Nat) (hk : k < L.length) : pcs V ((L.take (k + 1)).map Tr.lf) = pcs V ((L.take k).map Tr.lf) ++ [.int .u64 (V L[k] : Nat), .bool true] := by
  rw [List.take_succ_eq_append_getElem hk, List.map_append, pcs_app]; rfl
theorem LvsAt.grown {w w' : World} {V : Nat → Nat} {L : List Nat} {gs : List (Nat × Nat)} {gb n c : Nat} (h : LvsAt w V L gs) (hg : w.grownBy w' (Value.ownBlock (.slice (some ⟨gb, 0, none⟩) n c))) (hne : ∀ j, j < gs.length → (gs.getD j (0, 0)).1 ≠ gb) : LvsAt w' V L gs := fun j hj =>
  ⟨rd_grown (h j hj).1 hg (fun k e => by simp [Value.ownBlock] at e; subst e; exact hne j hj), (h j hj).2⟩
theorem LvsAt.lt {w : World} {V : Nat → Nat} {L : List Nat} {gs : List (Nat × Nat)} (h : LvsAt w V L gs) (hL : 0 < L.length) {j : Nat} (hj : j < gs.length) : (gs.getD j (0, 0)).1 < w.heap.size := by
  have hl : 0 < (lev V L j).length := by
    cases j with
    | zero => show 0 < (L.map Tr.lf).length; rw [List.length_map]; exact hL
    | succ j => rw [lev_length]; omega
  obtain ⟨a, e, hb, _⟩ := (h j hj).1 0 (by rw [pcs_length]; omega)
  cases e; exact hb
set_option maxHeartbeats 8000000 in
set_option maxRecDepth 100000 in
theorem levels_any (ws : List Nat) (p : Option Addr) (c n gs0 sz cs lm : Nat) (w : World) (hn : n = ws.length) (ho : okW ws = true) (hsz : sz = (lv ws).length) (h2 : 2 ≤ sz) (hlm : 1 ≤ lm) (hlm2 : lm ≤ 15) (hp : Rd w p (nums ws)) (hs : Rd w (some ⟨gs0, 0, none⟩) (zs (up (lv ws)))) :
    Calls Try.prog 19 #[.slice p n c, .slice (some ⟨gs0, 0, none⟩) sz cs, .int .i64 (lm : Int)] w (LsP w (wf ws) (lv ws) lm) := by
  obtain ⟨i0, hi0, hz0, hz1, hz2⟩ := info_parts info_pk
  obtain ⟨i1, hi1, hy0, hy1, hy2⟩ := info_parts info_row
  have hl5 := okW_len ho
  have hsz5 : sz ≤ 512 := by have := lv_len ws; have := sy_len ws; omega
  have HOK := Lib.hid ho; have HN := Lib.hid hn; have HSZ := Lib.hid hsz
  obtain ⟨B, hB⟩ : ∃ B, B = w.heap.size := ⟨_, rfl⟩
  have HBW := Lib.hid hB
  have P : Hid (∀ W, Below B w W → Rd W p (nums ws) ∧ Rd W (some ⟨gs0, 0, none⟩) (zs (up (lv ws)))) := Lib.hid (fun W hb => ⟨hp.below (by rw [← hB]; exact hb), hs.below (by rw [← hB]; exact hb)⟩)
  obtain ⟨w1, hw1⟩ : ∃ w1, w1 = w.alloc (.cells #[] 55) := ⟨_, rfl⟩
  have own0 : w1.ownsRow B 55 2 (.slice (some ⟨B, 0, none⟩) 0 0) 0 [] := by
    have := World.ownsRow_lit (e := 55) (base := B) (size := 2) w #[] 0 (by omega) (by decide) rfl
    rw [← hw1, ← hB] at this
    exact this
  have hs1 : w1.heap.size = B + 1 := by rw [hw1, hB]; simp
  have HO0 := Lib.hid own0; have HS1 := Lib.hid hs1
  have HB1 : Hid (Below B w w1) := Lib.hid (by rw [hw1, hB]; exact (Below.refl _ _).alloc (Nat.le_refl _) _)
  clear hp hs hn hsz ho own0 hs1 hl5
  go_enter Try.func19, Try.ntmps19
  go_wp2_with fail
  rw [← hw1, ← hB]
  clear hw1 hB
  go_loopw [7, 14] (fun v i wr => ∃ (k g cap : Nat), k ≤ sz ∧ i = .int .i64 k ∧ v = .slice (some ⟨g, 0, none⟩) k cap ∧ B ≤ g ∧ g < wr.heap.size ∧ Hid (PkAt wr B (wf ws) g k cap (((lv ws).take k).map Tr.lf)) ∧ Hid (Below B w wr)) (fun _ i _ => sz - (intOf i).toNat)
  case atStart => exact ⟨0, B, 0, Nat.zero_le _, rfl, rfl, Nat.le_refl _, by rw [HS1.out]; omega, HO0, HB1⟩
  case round =>
    obtain ⟨k, g, cap, hk, rfl, rfl, hgB, hgl, HO, HB⟩ := hrel
    have hwz : B ≤ wr.heap.size := by omega
    have hPP := P.out wr HB.out
    have HP1 := Lib.hid hPP.1; have HP2 := Lib.hid hPP.2
    clear hPP
    by_cases hlt : k < sz
    · have hkl : k < (lv ws).length := by rw [← HSZ.out]; exact hlt
      have cs1 := HP2.out.at (i := k) (by simp [zs, up]; exact hkl)
      rw [Addr.add_lit, Nat.zero_add] at cs1
      have hsl : (lv ws)[k] < ws.length := (lv_mem.1 (List.getElem_mem hkl)).1
      obtain ⟨s, hs⟩ : ∃ s, s = (lv ws)[k] := ⟨_, rfl⟩
      have cs2 : wr.cell? ⟨gs0, k, none⟩ = some (.int .i64 (s : Nat)) := by rw [cs1, hs]; simp [zs, up, hkl]
      rw [← hs] at hsl
      obtain ⟨a, rfl, cy⟩ := rd_num HP1.out s hsl
      have HLR : Hid (pcs (wf ws) (((lv ws).take (k + 1)).map Tr.lf) = pcs (wf ws) (((lv ws).take k).map Tr.lf) ++ [.int .u64 ((ws.getD s 0 : Nat) : Int), .bool true]) := Lib.hid (by rw [leaf_row _ _ k hkl, ← hs]; rfl)
      obtain ⟨y, hy⟩ : ∃ y, y = ws.getD s 0 := ⟨_, rfl⟩
      rw [← hy] at cy HLR
      have k0 : (0 : Int) ≤ (k : Int) := by omega
      have k1 : (k : Int) < (sz : Int) := by omega
      have k2 : (0 : Int) ≤ (s : Int) := by omega
      have k3 : (s : Int) < (n : Int) := by rw [HN.out]; omega
      obtain ⟨xs, hxs⟩ : ∃ xs, xs = pcs (wf ws) (((lv ws).take k).map Tr.lf) := ⟨_, rfl⟩
      rw [← hxs] at HLR
      have HOx : Hid (wr.ownsRow B 55 2 (.slice (some ⟨g, 0, none⟩) k cap) k xs) := Lib.hid (by rw [hxs]; exact HO.out)
      clear cs1 hsl hs hy hkl hxs
      go_wp2_with (at_builtin; refine Rw.push rfl _ _ 53 rfl B 55 i0 (.agg #[.int .u64 0, .bool false]) 2 16 Try.underlying53 hi0 hz0 hz1 hz2 rfl (by decide) (.slice (some ⟨g, 0, none⟩) k cap) k xs rfl HOx.out [.int .u64 (y : Nat), .bool true] rfl rfl rfl (by omega) (by omega) hwz ?_)
      intro g4 cap4 w4 hown4 _ hor4 hl4 hb4
      have hgB4 : B ≤ g4 := by
        rcases hor4 with h | h
        · have : g = g4 := by simpa [Value.ownBlock] using h
          omega
        · omega
      have HO4 : Hid (PkAt w4 B (wf ws) g4 (k + 1) cap4 (((lv ws).take (k + 1)).map Tr.lf)) := Lib.hid (by unfold PkAt; rw [HLR.out]; exact hown4)
      have HB4 := Lib.hid (HB.out.trans hb4)
      clear hown4 hb4 hor4
      go_wp2_with fail
      go_roundw
      case rel => exact ⟨k + 1, g4, cap4, by omega, by go_num, rfl, hgB4, hl4, HO4, HB4⟩
      case measure => simp [intOf]; omega
    · obtain rfl : k = sz := by omega
      have k1 : ¬ (k : Int) < (k : Int) := by omega
      have hall : ((lv ws).take k).map Tr.lf = lev (wf ws) (lv ws) 0 := by rw [HSZ.out, List.take_length]; rfl
      have hlen : (lev (wf ws) (lv ws) 0).length = k := by rw [← hall, List.length_map, List.length_take, ← HSZ.out, Nat.min_self]
      obtain ⟨_, _, e0, hcap, hRF, _⟩ := own_rdN HO.out
      cases e0
      rw [hall] at hRF
      have HLEN := Lib.hid hlen
      obtain ⟨w5, hw5⟩ : ∃ w5, w5 = wr.alloc (.cells #[.slice (some ⟨g, 0, none⟩) k cap] 53) := ⟨_, rfl⟩
      have own5 : w5.ownsRow B 53 1 (.slice (some ⟨wr.heap.size, 0, none⟩) 1 1) 1 (ovs (wf ws) (lv ws) [(g, cap)]) := by
        have := World.ownsRow_lit (e := 53) (base := B) (size := 1) wr #[.slice (some ⟨g, 0, none⟩) k cap] 1 hwz (by decide) rfl
        rw [← hw5] at this
        have e : ovs (wf ws) (lv ws) [(g, cap)] = [.slice (some ⟨g, 0, none⟩) k cap] := by simp [ovs, hlen]
        rw [e]
        exact this
      have hb5 : Below wr.heap.size wr w5 := by rw [hw5]; exact (Below.refl _ _).alloc (Nat.le_refl _) _
      have HO5 := Lib.hid own5
      have HB5 : Hid (Below B w w5) := Lib.hid (HB.out.trans (hb5.mono hwz))
      have HLV : Hid (LvsAt w5 (wf ws) (lv ws) [(g, cap)]) := Lib.hid (fun j hj => by
        obtain rfl : j = 0 := by simpa using hj
        exact ⟨hRF.below hb5, by rw [hlen]; exact hcap⟩)
      have hs5 : w5.heap.size = wr.heap.size + 1 := by rw [hw5]; simp
      obtain ⟨ga, hga⟩ : ∃ ga, ga = wr.heap.size := ⟨_, rfl⟩
      rw [← hga] at HO5 hs5 hwz
      have HGA := Lib.hid hga
      have HNE0 : Hid (∀ j, j < [(g, cap)].length → ([(g, cap)].getD j (0, 0)).1 ≠ ga) := Lib.hid (fun j hj => by
        obtain rfl : j = 0 := by simpa using hj
        show g ≠ ga
        omega)
      have CL : Hid (∀ (j gt ct : Nat) (W : World), j ≤ 14 → Rd W (some ⟨g, 0, none⟩) (pcs (wf ws) (lev (wf ws) (lv ws) 0)) → Rd W (some ⟨gt, 0, none⟩) (pcs (wf ws) (lev (wf ws) (lv ws) j)) →
          Calls Try.prog 27 #[.slice (some ⟨g, 0, none⟩) k cap, .slice (some ⟨gt, 0, none⟩) (lev (wf ws) (lv ws) j).length ct] W fun e w' => ∃ (g cap : Nat), e = .returned (.slice (some ⟨g, 0, none⟩) (lev (wf ws) (lv ws) (j + 1)).length cap) ∧ W.heap.size ≤ g ∧ g < w'.heap.size ∧ (lev (wf ws) (lv ws) (j + 1)).length ≤ cap ∧ Rd w' (some ⟨g, 0, none⟩) (pcs (wf ws) (lev (wf ws) (lv ws) (j + 1))) ∧ Below W.heap.size W w') :=
        Lib.hid (fun j gt ct W h1 h2' h3 => by
          have hl := lev_length (wf ws) (lv ws) j
          rw [← HSZ.out] at hl
          have hle := lev_le (wf ws) (lv ws) j
          rw [← HSZ.out] at hle
          have := level_any (wf ws) (lev (wf ws) (lv ws) 0) (lev (wf ws) (lv ws) j) g gt k _ cap ct W HLEN.out.symm rfl (by omega) (by omega) (by omega) (lev_up (lv_up ws) 0) (lev_up (lv_up ws) j) (wt_ok HOK.out (by omega)) h2' h3
          rw [← hl] at this
          exact this)
      clear hall hlen hRF own5 hb5 hgl hk hlt HO hga HO0 HB1 HS1
      go_wp2_with fail
      rw [← hw5, ← HGA.out]
      clear hw5
      go_loopw [10] (fun v wr2 => ∃ (gb cb : Nat) (gs : List (Nat × Nat)), v = .slice (some ⟨gb, 0, none⟩) gs.length cb ∧ 1 ≤ gs.length ∧ gs.length ≤ lm ∧ Hid (gs.getD 0 (0, 0) = (g, cap)) ∧ B ≤ gb ∧ gb < wr2.heap.size ∧ Hid (∀ j, j < gs.length → (gs.getD j (0, 0)).1 ≠ gb) ∧ Hid (wr2.ownsRow B 53 1 v gs.length (ovs (wf ws) (lv ws) gs)) ∧ Hid (LvsAt wr2 (wf ws) (lv ws) gs) ∧ Hid (Below B w wr2)) (fun v _ => match v with | .slice _ n _ => lm - n | _ => 0)
      case atStart => exact ⟨ga, 1, [(g, cap)], rfl, Nat.le_refl _, hlm, Lib.hid rfl, hwz, by omega, HNE0, HO5, HLV, HB5⟩
      case round =>
        clear HO5 HLV HB5 hs5
        obtain ⟨gb, cb, gs, rfl, hg1, hg2, HG0, hgbB, hgbl, HNE, HOW, HLV, HB⟩ := hrel
        obtain ⟨q, hq⟩ : ∃ q, q = gs.length := ⟨_, rfl⟩
        rw [← hq] at hg1 hg2 HOW ⊢
        have HQ := Lib.hid hq
        have hwz2 : B ≤ wr.heap.size := by omega
        by_cases hlt : q < lm
        · obtain ⟨r, hr⟩ : ∃ r, q = r + 1 := ⟨q - 1, by omega⟩
          have hrl : r < gs.length := by omega
          have hcr := HOW.out.cellAt r (by omega)
          have hov := ovs_at (wf ws) (lv ws) gs hrl
          rw [show (ovs (wf ws) (lv ws) gs)[r]? = some ((ovs (wf ws) (lv ws) gs).getD r (.bool false)) from by
            rw [List.getD_eq_getElem?_getD, List.getElem?_eq_getElem (by rw [ovs_length]; exact hrl)]; rfl, hov] at hcr
          have hLr := (HLV.out r hrl).1
          have hL0 := (HLV.out 0 (by omega)).1
          rw [HG0.out] at hL0
          obtain ⟨gt, hgt⟩ : ∃ x, x = (gs.getD r (0, 0)).1 := ⟨_, rfl⟩
          obtain ⟨ct, hct⟩ : ∃ x, x = (gs.getD r (0, 0)).2 := ⟨_, rfl⟩
          rw [← hgt, ← hct] at hcr
          rw [← hgt] at hLr
          have C := CL.out r gt ct wr (by omega) hL0 hLr
          rw [← hr] at C
          have C1 := Lib.hid C
          have HNX : Hid (∀ g7 c7, ovs (wf ws) (lv ws) (gs ++ [(g7, c7)]) = ovs (wf ws) (lv ws) gs ++ [.slice (some ⟨g7, 0, none⟩) (lev (wf ws) (lv ws) q).length c7] ∧ (gs ++ [(g7, c7)]).length = q + 1) := Lib.hid (fun g7 c7 => ⟨by rw [ovs_snoc, HQ.out], by simp [HQ.out]⟩)
          have hLpos : 0 < (lv ws).length := by rw [← HSZ.out]; omega
          have HLP := Lib.hid hLpos
          obtain ⟨ln, hln⟩ : ∃ x, x = (lev (wf ws) (lv ws) r).length := ⟨_, rfl⟩
          obtain ⟨lq, hlq⟩ : ∃ x, x = (lev (wf ws) (lv ws) q).length := ⟨_, rfl⟩
          rw [← hln] at hcr
          rw [← hln, ← hlq] at C1
          rw [← hlq] at HNX
          have HLQ := Lib.hid hlq
          have hlz : (q : Int) < (lm : Int) := by omega
          have z1 : (q : Int) - 1 = (r : Int) := by omega
          have z2 : IntKind.i64.wrap ((r : Int)) = (r : Int) := IntWalk.i64_in _ (by omega)
          have z3 : (0 : Int) ≤ (r : Int) := by omega
          have z4 : (r : Int) < (q : Int) := by omega
          clear hq hr hrl hov hLr hL0 hgt hct C hln hlq hLpos hlt
          go_wp2_with fail
          refine C1.out.mono ?_
          rintro e w6 ⟨g7, c7, rfl, h1, h2', h3, h4, h5⟩
          have HO6 := Lib.hid (own_below HOW.out h5)
          have HLV6 := Lib.hid (HLV.out.below h5)
          have HB6 : Hid (Below B w w6) := Lib.hid (HB.out.trans (h5.mono hwz2))
          have hwz6 : B ≤ w6.heap.size := Nat.le_trans hwz2 h5.size
          have H7 := Lib.hid (And.intro h1 (And.intro h2' h3)); have HR7 := Lib.hid h4
          have hgb6 : gb < w6.heap.size := Nat.lt_of_lt_of_le hgbl h5.size
          clear h1 h2' h3 h4 h5 C1
          go_wp2_with (at_builtin; refine Rw.push rfl _ _ 40 rfl B 53 i1 (.slice none 0 0) 1 24 Try.underlying40 hi1 hy0 hy1 hy2 rfl (by decide) (.slice (some ⟨gb, 0, none⟩) q cb) q _ rfl HO6.out [.slice (some ⟨g7, 0, none⟩) lq c7] rfl rfl rfl (by omega) (by omega) hwz6 ?_)
          intro g8 c8 w8 hown8 hgr8 hor8 hl8 hb8
          have HO8 : Hid (w8.ownsRow B 53 1 (.slice (some ⟨g8, 0, none⟩) (q + 1) c8) (q + 1) (ovs (wf ws) (lv ws) (gs ++ [(g7, c7)]))) := Lib.hid (by rw [(HNX.out g7 c7).1]; exact hown8)
          have hgb8 : B ≤ g8 := by
            rcases hor8 with h | h
            · have : gb = g8 := by simpa [Value.ownBlock] using h
              omega
            · omega
          have HB8 : Hid (Below B w w8) := Lib.hid (HB6.out.trans hb8)
          have hne7 : g7 ≠ gb := by have := H7.out.1; omega
          have HLV8 : Hid (LvsAt w8 (wf ws) (lv ws) (gs ++ [(g7, c7)])) := Lib.hid ((HLV6.out.snoc (by rw [← HQ.out]; exact HR7.out) (by rw [← HQ.out, ← HLQ.out]; exact H7.out.2.2)).grown hgr8 (fun j hj => by
            rw [List.length_append, List.length_singleton] at hj
            by_cases e : j < gs.length
            · have : (gs ++ [(g7, c7)]).getD j (0, 0) = gs.getD j (0, 0) := by simp [List.getElem?_append_left e]
              rw [this]; exact HNE.out j e
            · obtain rfl : j = gs.length := by omega
              have : (gs ++ [(g7, c7)]).getD gs.length (0, 0) = (g7, c7) := by simp
              rw [this]; exact hne7))
          have HNE8 : Hid (∀ j, j < (gs ++ [(g7, c7)]).length → ((gs ++ [(g7, c7)]).getD j (0, 0)).1 ≠ g8) := Lib.hid (fun j hj => by
            have hlt6 : ((gs ++ [(g7, c7)]).getD j (0, 0)).1 < w6.heap.size ∧ ((gs ++ [(g7, c7)]).getD j (0, 0)).1 ≠ gb := by
              rw [List.length_append, List.length_singleton] at hj
              by_cases e : j < gs.length
              · have : (gs ++ [(g7, c7)]).getD j (0, 0) = gs.getD j (0, 0) := by simp [List.getElem?_append_left e]
                rw [this]; exact ⟨HLV6.out.lt HLP.out e, HNE.out j e⟩
              · obtain rfl : j = gs.length := by omega
                have : (gs ++ [(g7, c7)]).getD gs.length (0, 0) = (g7, c7) := by simp
                rw [this]; exact ⟨H7.out.2.1, hne7⟩
            rcases hor8 with h | h
            · have : gb = g8 := by simpa [Value.ownBlock] using h
              rw [← this]; exact hlt6.2
            · omega)
          have HG8 : Hid ((gs ++ [(g7, c7)]).getD 0 (0, 0) = (g, cap)) := Lib.hid (by
            rw [← HG0.out]
            have : 0 < gs.length := by rw [← HQ.out]; omega
            rw [List.getD_eq_getElem?_getD, List.getD_eq_getElem?_getD, List.getElem?_append_left this])
          clear hown8 hgr8 hor8 hb8 hne7
          go_wp2_with fail
          go_roundw
          case rel => exact ⟨g8, c8, gs ++ [(g7, c7)], by rw [(HNX.out g7 c7).2], by rw [(HNX.out g7 c7).2]; omega, by rw [(HNX.out g7 c7).2]; omega, HG8, hgb8, hl8, HNE8, by rw [(HNX.out g7 c7).2]; exact HO8, HLV8, HB8⟩
          case measure => show lm - (q + 1) < lm - q; omega
        · obtain rfl : q = lm := by omega
          have hz : ¬ (q : Int) < (q : Int) := by omega
          obtain ⟨_, _, e0, _, hRO, _⟩ := own_rdN HOW.out
          cases e0
          have F : Hid (LsP w (wf ws) (lv ws) q (.returned (.slice (some ⟨gb, 0, none⟩) q cb)) wr) := Lib.hid ⟨gb, cb, gs, rfl, HQ.out.symm, hRO, HLV.out, by rw [← HBW.out]; exact hgbB, by rw [← HBW.out]; exact HB.out⟩
          clear hRO hq
          go_wp2_with fail
          go_ret
          exact F.out
end Go.Proofs.Ytbegngilbngnoaa.Ps
