/- The walk of TopSummed. -/
import Derived.Test.YtjbbkcnfilnmcaaDoorTopSumM
import Derived.Test.YtjbbkcnfilnmcaaDoorRd
import Derived.OpenShut
import Derived.ChangeSlices
namespace Go.Proofs.YtjbbkcnfilnmcaaDoor.Ts
open Go.RowKit Bt Rw

theorem bcells_length (L : List UInt8) : (Lib.byteCells L).length = L.length := by simp [Lib.byteCells]
theorem bcells_getD (L : List UInt8) (k : Nat) (h : k < L.length) : (Lib.byteCells L).getD k (.bool false) = .int .u8 ((L.getD k 0).toNat : Int) := by
  simp [Lib.byteCells, List.getD_eq_getElem?_getD, List.getElem?_eq_getElem h]
theorem rd_byte {w : World} {A : Option Addr} {L : List UInt8} (h : Rd w A (Lib.byteCells L)) (k : Nat) (hk : k < L.length) : ∃ a : Addr, A = some a ∧ w.cell? (a.add k) = some (.int .u8 ((L.getD k 0).toNat : Int)) := by
  obtain ⟨a, e, _, hc⟩ := h k (by rw [bcells_length]; exact hk)
  exact ⟨a, e, by rw [hc, bcells_getD L k hk]⟩
theorem gv : getV ⟨#[160]⟩ 3 0 3 = 5 ∧ getE ⟨#[160]⟩ 3 0 3 = 0 := by decide +kernel

set_option maxHeartbeats 4000000 in
set_option maxRecDepth 100000 in
theorem begins_any (w : World) : Calls Tryd.prog 4 #[] w fun e w' => e = .returned (.bool true) ∧ Below w.heap.size w w' := by
  go_enter Tryd.func4, Tryd.ntmps4
  go_wp2_with fail
  refine (put_top ⟨#[]⟩ 0 5 3 _ (small (by decide)) (by decide)).mono ?_
  rintro e w1 ⟨rfl, b1⟩
  rw [px1, px2, px3]
  have x1 := Box.new w1 ⟨#[160]⟩ 3
  have c0 := x1.c0; have c1 := x1.c1
  have B1 := Lib.hid (b1.alloc b1.size (.cells #[.string ⟨#[160]⟩, .int .i64 3] 25)); have X1 := Lib.hid x1
  clear b1 x1
  go_wp2_with fail
  refine (get_any ⟨#[160]⟩ 3 0 3 _ (small (by decide))).mono ?_
  rintro e w2 ⟨rfl, b2⟩
  rw [gv.1, gv.2]
  have x2 := X1.out.below b2
  have d0 := x2.c0; have d1 := x2.c1
  have B2 := Lib.hid (B1.out.trans (b2.mono B1.out.size))
  clear b2 x2 X1 B1 c0 c1
  go_wp2_with fail
  go_ret
  exact ⟨rfl, B2.out⟩

theorem take_snoc8 (L : List UInt8) (k : Nat) (h : k < L.length) : L.take (k + 1) = L.take k ++ [L.getD k 0] := by
  rw [List.take_succ_eq_append_getElem h]; simp [List.getD_eq_getElem?_getD, List.getElem?_eq_getElem h]

set_option maxHeartbeats 16000000 in
set_option maxRecDepth 100000 in
theorem summed_law (L : List UInt8) (A : Option Addr) (cap : Nat) (at_ : Int) (w : World) (hr : Rd w A (Lib.byteCells L)) (hL : L.length ≤ 9223372036854775807) (hT : Crc.TabOk w) :
    Calls Tryd.prog 3 #[.slice A L.length cap, .int .i64 at_] w fun e w' => e = .returned (.bool true) ∧ Below w.heap.size w w' := by
  obtain ⟨n, hn⟩ : ∃ n, n = L.length := ⟨_, rfl⟩
  rw [← hn]; rw [← hn] at hL
  have HN := Lib.hid hn; have HR := Lib.hid hr; have HT := Lib.hid hT
  clear hn hr hT
  go_enter Tryd.func3, Tryd.ntmps3
  go_wp2_with fail
  refine (begins_any _).mono ?_
  rintro e w1 ⟨rfl, b⟩
  have B1 := Lib.hid b; clear b
  by_cases h2 : 2000 < n
  · go_wp2_with fail
    go_ret
    exact ⟨rfl, B1.out⟩
  have hn2 : n ≤ 2000 := by omega
  have X1 := Lib.hid (Box.new w1 ⟨#[]⟩ 0)
  have B2 := Lib.hid (B1.out.alloc B1.out.size (.cells #[.string ⟨#[]⟩, .int .i64 0] 25))
  clear h2
  obtain ⟨G, hG⟩ : ∃ G, G = w1.heap.size := ⟨_, rfl⟩
  have hGw : w.heap.size ≤ G := by rw [hG]; exact B1.out.size
  go_wp2_with fail
  rw [← hG] at X1 ⊢
  clear hG
  go_loopw [6, 8, 30] (fun y _ i wr => ∃ (k m : Nat) (S : ByteArray), k ≤ n ∧ i = .int .i64 k ∧ y = .int .i64 0 ∧ m = 8 * k ∧ S = ofB (L.take k) ∧ Box wr G S (m : Int) ∧ Below w.heap.size w wr) (fun _ _ i _ => n - (intOf i).toNat)
  case atStart => exact ⟨0, 0, ⟨#[]⟩, by omega, rfl, rfl, rfl, rfl, X1.out, B2.out⟩
  case round =>
    obtain ⟨k, m, S, hk, rfl, rfl, hm, hS, hb, hbl⟩ := hrel
    have hSl : (L.take k).length = k := by rw [List.length_take, ← HN.out]; omega
    by_cases hlt : k < n
    · obtain ⟨a, rfl, ca⟩ := rd_byte (HR.out.below hbl) k (by rw [← HN.out]; exact hlt)
      obtain ⟨c, hc⟩ : ∃ c, c = L.getD k 0 := ⟨_, rfl⟩
      rw [← hc] at ca
      have hp := put_whole (L.take k) c m (by rw [hSl]; exact hm) (by omega)
      have hts := take_snoc8 L k (by rw [← HN.out]; exact hlt)
      rw [← hc] at hts
      rw [← hS, ← hts] at hp
      have hSz : S.size ≤ maxLen := by rw [hS, ofB_size, hSl]; unfold maxLen; omega
      have hc8 := c.toNat_lt
      have ec : (c.toNat : Int) % 18446744073709551616 = (c.toNat : Int) := by omega
      have HP := Lib.hid hp; have HB := Lib.hid hb; have HBL := Lib.hid hbl; have HSZ := Lib.hid hSz
      have HM8 : Hid (m + 8 = 8 * (k + 1)) := Lib.hid (by omega)
      have c0 := hb.c0; have c1 := hb.c1
      clear hp hb hbl hSz hc hts hS hm ec
      go_wp2_with fail
      refine (put_top S m c.toNat 8 _ HSZ.out (by omega)).mono ?_
      rw [HP.out.1, HP.out.2.1, HP.out.2.2]
      rintro e w2 ⟨rfl, b2⟩
      have hb2 := HB.out.below b2
      have q0 := hb2.c0; have q1 := hb2.c1; have p0 := hb2.f0; have p1 := hb2.f1
      have H1 := Lib.hid (hb2.set (ofB (L.take (k + 1))) ((m + 8 : Nat) : Int))
      have H2 := Lib.hid (((HBL.out.trans (b2.mono HBL.out.size)).setCell (p := ⟨G, 0, none⟩) hGw (.string (ofB (L.take (k + 1))))).setCell (p := ⟨G, 1, none⟩) hGw (.int .i64 ((m + 8 : Nat) : Int)))
      clear b2 hb2 c0 c1 ca
      go_wp2_with fail
      go_roundw
      case rel => exact ⟨k + 1, m + 8, _, by omega, by go_num, rfl, HM8.out, rfl, H1.out, H2.out⟩
      case measure => simp [intOf]; omega
    · obtain rfl : k = n := by omega
      have htk : L.take k = L := List.take_of_length_le (by rw [← HN.out]; exact Nat.le_refl _)
      rw [htk] at hS
      have hSz : S.size = k := by rw [hS, ofB_size, ← HN.out]
      have hSb : Bt.bytes S = L := by rw [hS, ofB_data]
      have hS6 : S.size ≤ 65536 := by omega
      have hSm : S.size ≤ maxLen := by unfold maxLen; omega
      obtain ⟨f, hf⟩ : ∃ f, f = S ++ Crc.tailS S := ⟨_, rfl⟩
      have hfz : f.size = k + 4 := by rw [hf, ByteArray.size_append, Crc.tailS_size, hSz]
      have hfr : Crc.frameS S = f ∧ Crc.frameE S = 0 := by
        unfold Crc.frameS Crc.frameE
        rw [if_neg (by omega), if_neg (by omega), hf]; exact ⟨rfl, rfl⟩
      have hop := Crc.frame_open S hS6
      rw [← hf] at hop
      have hfm : f.size ≤ maxLen := by unfold maxLen; omega
      have HF := Lib.hid hf; have HFR := Lib.hid hfr; have HOP := Lib.hid hop; have HSM := Lib.hid hSm; have HFM := Lib.hid hfm; have HSB := Lib.hid hSb; have HS6 := Lib.hid hS6
      have HT1 := Lib.hid (HT.out.below hbl)
      have HBL := Lib.hid hbl; have HB := Lib.hid hb; have HFZ := Lib.hid hfz; have HSZ := Lib.hid hSz
      have c0 := hb.c0; have c1 := hb.c1
      clear hS hf hfr hop hSm hfm hSb hS6 hbl hb hfz htk hSl hm
      have hSz2 : S.size ≤ 2000 := by have := HSZ.out; omega
      go_wp2_with fail
      refine (Crc.frame_any S _ HSM.out HT1.out).mono ?_
      rw [HFR.out.1, HFR.out.2]
      rintro e w2 ⟨rfl, b2⟩
      have HT2 := Lib.hid (HT1.out.below b2); have B3 := Lib.hid (HBL.out.trans (b2.mono HBL.out.size))
      clear b2 c0 c1
      go_wp2_with fail
      refine (Crc.open_any f _ HFM.out HT2.out).mono ?_
      rw [HOP.out.1, HOP.out.2]
      rintro e w3 ⟨rfl, b3⟩
      have HT3 := Lib.hid (HT2.out.below b3); have B4 := Lib.hid (B3.out.trans (b3.mono B3.out.size))
      clear b3
      have hsk : ((S.size : Int) != (k : Int)) = false := by rw [bne_eq_false_iff_eq]; have := HSZ.out; omega
      obtain ⟨M, hM⟩ : ∃ M, M = 8 * S.size := ⟨_, rfl⟩
      have eM : 8 * (S.size : Int) = (M : Int) := by omega
      have eMk : 8 * (k : Int) = (M : Int) := by have := HSZ.out; omega
      have hMb : M ≤ 16000 := by omega
      have HM := Lib.hid hM
      clear hM
      have X4 := Lib.hid (Box.new w3 S (M : Int))
      have B5 := Lib.hid (B4.out.alloc B4.out.size (.cells #[.string S, .int .i64 (M : Int)] 25))
      have HT4 := Lib.hid (HT3.out.below ((Below.refl _ w3).alloc (Nat.le_refl _) (.cells #[.string S, .int .i64 (M : Int)] 25)))
      obtain ⟨G2, hG2⟩ : ∃ G2, G2 = w3.heap.size := ⟨_, rfl⟩
      go_wp2_with fail
      rw [← hG2] at X4 ⊢
      clear hG2
      go_loopw [14, 15, 16, 17, 75] (fun _ _ _ _ i wr => ∃ k2 : Nat, k2 ≤ k ∧ i = .int .i64 k2 ∧ Box wr G2 S (M : Int) ∧ Crc.TabOk wr ∧ Below w.heap.size w wr) (fun _ _ _ _ i _ => k - (intOf i).toNat)
      case atStart => exact ⟨0, by omega, rfl, X4.out, HT4.out, B5.out⟩
      case round =>
        obtain ⟨k2, hk2, rfl, hb, ht, hbl⟩ := hrel
        by_cases hlt : k2 < k
        · obtain ⟨a, rfl, ca⟩ := rd_byte (HR.out.below hbl) k2 (by rw [← HN.out]; exact hlt)
          obtain ⟨c, hc⟩ : ∃ c, c = L.getD k2 0 := ⟨_, rfl⟩
          rw [← hc] at ca
          obtain ⟨b8, hb8⟩ : ∃ b8, b8 = 8 * k2 := ⟨_, rfl⟩
          have e8 : 8 * (k2 : Int) = (b8 : Int) := by omega
          have hg := get_whole S M b8 k2 HM.out (by omega) hb8 (by have := HSZ.out; omega)
          rw [HSB.out, ← hc] at hg
          have hc8 := c.toNat_lt
          have HG := Lib.hid hg; have HB2 := Lib.hid hb; have HBL2 := Lib.hid hbl; have HT5 := Lib.hid ht
          have hb8b : b8 ≤ 16000 := by omega
          have c0 := hb.c0; have c1 := hb.c1
          clear hg hb hbl ht hc hb8
          go_wp2_with fail
          refine (get_any S M b8 8 _ HSM.out).mono ?_
          rw [HG.out.1, HG.out.2]
          rintro e w5 ⟨rfl, b5⟩
          have H1 := Lib.hid (HB2.out.below b5); have H2 := Lib.hid (HT5.out.below b5); have H3 := Lib.hid (HBL2.out.trans (b5.mono HBL2.out.size))
          clear b5 c0 c1 ca
          go_wp2_with fail
          go_roundw
          case rel => exact ⟨k2 + 1, by omega, by go_num, H1.out, H2.out, H3.out⟩
          case measure => simp [intOf]; omega
        · obtain rfl : k2 = k := by omega
          have B6 := Lib.hid hbl; have HT5 := Lib.hid ht
          clear hb ht hbl hlt
          obtain ⟨M2, hM2⟩ : ∃ M2, M2 = 8 * f.size := ⟨_, rfl⟩
          have eM2 : 8 * (f.size : Int) = (M2 : Int) := by omega
          have hf2 : f.size ≤ 2004 := by have := HFZ.out; omega
          have hM2b : M2 ≤ 17000 := by omega
          have HM2 := Lib.hid hM2
          by_cases ha : at_ < 0 ∨ (M2 : Int) ≤ at_
          · have e1 := turn_out f M2 at_ hM2 (by omega) ha
            have HE1 := Lib.hid e1
            clear e1 hM2
            go_wp2_with fail
            refine (turn_top f M2 at_ _ HFM.out).mono ?_
            rw [HE1.out]
            rintro e w6 ⟨rfl, b6⟩
            have B7 := Lib.hid ((B6.out.trans (b6.mono B6.out.size)))
            have B8 := Lib.hid (B7.out.alloc B7.out.size (.cells #[.string (turnS f M2 at_), .int .i64 (turnN f M2 at_)] 25))
            clear b6
            rcases ha with ha | ha
            · have t1 : decide (at_ < 0) = true := decide_eq_true ha
              clear ha
              go_wp2_with fail
              go_ret
              exact ⟨rfl, B8.out⟩
            · have t1 : decide (at_ < 0) = false := decide_eq_false (by omega)
              have t2 : decide ((M2 : Int) ≤ at_) = true := decide_eq_true ha
              clear ha
              go_wp2_with fail
              go_ret
              exact ⟨rfl, B8.out⟩
          · obtain ⟨a9, rfl⟩ := Int.eq_ofNat_of_zero_le (show 0 ≤ at_ by omega)
            have htf := turn_frame S HS6.out M2 a9 (by rw [← HF.out]; exact hM2) (by omega)
            rw [← HF.out] at htf
            obtain ⟨T, hTd⟩ : ∃ T, T = turnS f M2 a9 := ⟨_, rfl⟩
            rw [← hTd] at htf
            have HTD := Lib.hid hTd; have HTF := Lib.hid htf
            have HTm : Hid (T.size ≤ maxLen) := Lib.hid (by rw [htf.2.2.2]; exact HFM.out)
            clear hTd htf hM2 ha
            go_wp2_with fail
            refine (turn_top f M2 a9 _ HFM.out).mono ?_
            rw [HTF.out.1, HTF.out.2.2.1, ← HTD.out]
            rintro e w6 ⟨rfl, b6⟩
            have B7 := Lib.hid ((B6.out.trans (b6.mono B6.out.size)))
            have B8 := Lib.hid (B7.out.alloc B7.out.size (.cells #[.string T, .int .i64 (M2 : Int)] 25))
            have HT6 := Lib.hid ((HT5.out.below b6).below ((Below.refl _ w6).alloc (Nat.le_refl _) (.cells #[.string T, .int .i64 (M2 : Int)] 25)))
            clear b6
            go_wp2_with fail
            refine (Crc.open_any T _ HTm.out HT6.out).mono ?_
            rw [HTF.out.2.1]
            rintro e w7 ⟨rfl, b7⟩
            have B9 := Lib.hid (B8.out.trans (b7.mono B8.out.size))
            clear b7
            go_wp2_with fail
            go_ret
            exact ⟨rfl, B9.out⟩

section
open Go.ChangeShapes Go.WideShapes
variable {H : Type} {enc : TypeId × Value → H} {P : Program} {w : World} {base : Nat} {spare : Nat → Bool} {held : Bool}
theorem cell_lt {w : World} {a : Addr} {v : Value} (h : w.cell? a = some v) : a.block < w.heap.size := by
  rcases Nat.lt_or_ge a.block w.heap.size with hl | hl
  · exact hl
  · unfold World.cell? at h
    rw [Array.getElem?_eq_none hl] at h
    cases h
theorem u8s_of {t e : TypeId} {fuel : Nat} {A : Option Addr} {len cap : Nat} {x : DataW H × List MemPlace} (ht : P.underlying t = some (.slice e)) (he : P.underlying e = some (.int .u8)) (hc : P.cellsOf e = 1)
    (h : DataW.trod enc P w base spare held fuel t [.slice A len cap] = some x) : ∃ L : List UInt8, L.length = len ∧ Rd w A (Lib.byteCells L) ∧ len ≤ cap ∧ cap ≤ maxLen := by
  rcases open_ints ht he hc h with ⟨hcs, _⟩ | ⟨a, l, c, zs, hcs, _, hl, hm, hz, _, hcell, hwf⟩
  · simp at hcs
    obtain ⟨rfl, rfl, rfl⟩ := hcs
    exact ⟨[], rfl, Rd.nil _ _, by simp, by simp⟩
  · simp at hcs
    obtain ⟨rfl, rfl, rfl⟩ := hcs
    have hlz : len ≤ zs.length := by rw [hz]; split <;> omega
    have hb : ∀ i, i < zs.length → 0 ≤ zs.getD i 0 ∧ zs.getD i 0 < 256 := by
      intro i hi
      have := hwf (zs.getD i 0) (by rw [List.getD_eq_getElem?_getD, List.getElem?_eq_getElem hi]; exact List.getElem_mem hi)
      have h2 := bounds_u8 this
      omega
    refine ⟨(zs.take len).map (fun z => UInt8.ofNat z.toNat), by rw [List.length_map, List.length_take]; omega, ?_, hl, hm⟩
    intro i hi
    rw [bcells_length, List.length_map, List.length_take] at hi
    have hci := hcell i (by omega)
    have h2 := cell_lt hci
    rw [add_block] at h2
    refine ⟨a, rfl, h2, ?_⟩
    rw [hci, bcells_getD _ _ (by rw [List.length_map, List.length_take]; omega)]
    have h3 := hb i (by omega)
    have e : ((zs.take len).map (fun z => UInt8.ofNat z.toNat)).getD i 0 = UInt8.ofNat (zs.getD i 0).toNat := by
      simp [List.getD_eq_getElem?_getD, show i < len by omega, List.getElem?_eq_getElem (show i < zs.length by omega)]
    have h4 : (zs.getD i 0).toNat < UInt8.size := by show (zs.getD i 0).toNat < 256; omega
    rw [e, UInt8.toNat_ofNat_of_lt' h4, Int.toNat_of_nonneg h3.1]
end
end Go.Proofs.YtjbbkcnfilnmcaaDoor.Ts
