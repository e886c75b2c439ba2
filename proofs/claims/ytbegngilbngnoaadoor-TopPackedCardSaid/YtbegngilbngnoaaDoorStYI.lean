/- The library's stable sort, at numbers. -/
import Derived.Test.YtbegngilbngnoaaDoorStXI
import Derived.Test.YtbegngilbngnoaaDoorStII
namespace Go.Proofs.YtbegngilbngnoaaDoor.St
open Go.Shelf Go.RowKit Go.Lib Go.Sort Go.Proofs

set_option maxHeartbeats 16000000 in
set_option maxRecDepth 1000000 in
theorem stable_I (enc : Nat → Value) (key : Nat → Nat) (g : Nat) (cb : Array Value) (blk off cap sz : Nat) (d0 : Array Nat) (w0 : World) (eg : ∀ args w, (callFunc g args).run Tryd.prog w = .ok (.enter g args) w) (hcmp : 0 < sz → CmpLays1 Tryd.prog g cb enc (cmpK key) blk off d0.size w0) (R : Row1 enc w0 blk off d0) (hs0 : d0.size = sz) (hsz : sz < 1000000000) (d : Array Nat) (w : World) (hs : d.size = sz) (hA : Asc d 0 sz) (S : SW enc w0 blk off d w) :
    Calls Tryd.prog 71 #[.slice (some ⟨blk, off, none⟩) sz cap, .int .i64 sz, .func (.func g) #[] cb] w (MgI enc key w0 blk off d 0 sz) := by
  have HS := Lib.hid hs
  have S0 : Aside (SW enc w0 blk off d w) := S
  have CI : Hid (∀ (a b : Nat) (dk : Array Nat) (W : World), dk.size = sz → a ≤ b → b ≤ sz → SW enc w0 blk off dk W → Asc dk a b → Calls Tryd.prog 79 #[.slice (some ⟨blk, off, none⟩) sz cap, .int .i64 a, .int .i64 b, .func (.func g) #[] cb] W (MgI enc key w0 blk off dk a b)) := Lib.hid (fun a b dk W h1 h2 h3 h4 h5 => by
    refine (insert_I enc key g cb blk off cap sz d0 w0 eg hcmp R hs0 hsz a b dk W h1 h2 h3 h4).mono ?_
    rintro e w1 ⟨g1, g2⟩
    have := ins_all (key := key) h2 (by omega) h5
    exact ⟨g1, _, this.1, this.2, g2⟩)
  have CM : Hid (∀ (a m b : Nat) (dk : Array Nat) (W : World), dk.size = sz → a < m → m < b → b ≤ sz → Two key dk a m b → SW enc w0 blk off dk W → Calls Tryd.prog 80 #[.slice (some ⟨blk, off, none⟩) sz cap, .int .i64 a, .int .i64 m, .int .i64 b, .func (.func g) #[] cb] W (MgI enc key w0 blk off dk a b)) := Lib.hid (fun a m b dk W h1 h2 h3 h4 h5 h6 => symMerge_I enc key g cb blk off cap sz d0 w0 eg hcmp R hs0 hsz (b - a) a m b dk W (Nat.le_refl _) h1 h2 h3 h4 h5 h6)
  have HSTART : Hid (Seg key d sz (cuts 1 20 0)) := Lib.hid (seg_start hA 20)
  clear S hs hA hcmp
  go_enter Tryd.func71, Tryd.ntmps71
  go_wp2_with fail
  go_loopg [7, 8] sz (fun gh va vb wr => ∃ (a b : Nat) (dk : Array Nat), va = .int .i64 a ∧ vb = .int .i64 b ∧ b = a + 20 ∧ 20 ∣ a ∧ a ≤ sz ∧ sz - a ≤ gh ∧ Hid (dk.size = sz) ∧ Hid (Seg key dk sz (cuts 1 20 a)) ∧ Hid (PermIn 0 sz d dk) ∧ Aside (SW enc w0 blk off dk wr))
  case atStart => exact ⟨0, 20, d, rfl, rfl, rfl, Nat.dvd_zero _, Nat.zero_le _, Nat.le_refl _, HS, HSTART, Lib.hid (permIn_refl _ _ _), S0⟩
  case round =>
    clear S0 HSTART
    obtain ⟨a, b, dk, rfl, rfl, hab, hda, has, hgh, HSK, HSEG, HP, S1⟩ := hrel
    have HAB := Lib.hid hab
    by_cases hlt : b ≤ sz
    · have hz : (b : Int) ≤ (sz : Int) := by omega
      have hzd : decide ((b : Int) ≤ (sz : Int)) = true := decide_eq_true hz
      obtain ⟨c, hc⟩ : ∃ c, c = b + 20 := ⟨_, rfl⟩
      have ec : (b : Int) + 20 = (c : Int) := by omega
      have wc1 : IntKind.i64.wrap (c : Int) = (c : Int) := by rw [IntKind.wrap_i64]; omega
      have HC2 := Lib.hid hc
      have hle : a ≤ b := by omega
      have hm : sz - b < sz - a := by omega
      have NX : Hid (∀ d2, PermIn a b dk d2 → Srt key d2 a b → Seg key d2 sz (cuts 1 20 b) ∧ PermIn 0 sz d d2 ∧ d2.size = sz) := Lib.hid (fun d2 g1 g2 => by
        have h1 := HAB.out
        rw [h1] at g1 g2 hlt ⊢
        exact ⟨seg_next HSEG.out (Nat.one_dvd _) hda hlt (Nat.le_of_eq HSK.out.symm) g1 g2, permIn_trans _ _ _ 0 sz HP.out (permIn_mono _ _ a (a + 20) 0 sz (Nat.zero_le _) hlt (Nat.le_of_eq HSK.out.symm) g1), by rw [g1.1]; exact HSK.out⟩)
      have hdb : 20 ∣ b := by omega
      have C1 := Lib.hid (CI.out a b dk wr HSK.out hle hlt S1.out (seg_asc HSEG.out hlt))
      clear hab hc hda S1 HSEG HP
      go_wp2_with fail
      refine C1.out.mono ?_
      rintro e w2 ⟨rfl, d2, g1, g2, g3⟩
      have N2 := NX.out d2 g1 g2
      have N2a := Lib.hid N2.1
      have N2b := Lib.hid N2.2.1
      have N2c := Lib.hid N2.2.2
      have S2 : Aside (SW enc w0 blk off d2 w2) := g3
      clear g1 g2 g3 N2 C1
      go_wp2_with fail
      go_roundg (sz - b)
      case measure => omega
      case rel => exact ⟨b, c, d2, rfl, by first | rfl | go_num, HC2.out, hdb, hlt, Nat.le_refl _, N2c, N2a, N2b, S2⟩
    · have hz : ¬ (b : Int) ≤ (sz : Int) := by omega
      have hzd : decide ((b : Int) ≤ (sz : Int)) = false := decide_eq_false hz
      have NX : Hid (∀ d2, PermIn a sz dk d2 → Srt key d2 a sz → Seg key d2 sz (cuts 20 40 0) ∧ PermIn 0 sz d d2 ∧ d2.size = sz) := Lib.hid (fun d2 g1 g2 => by
        exact ⟨seg_last HSEG.out (Nat.one_dvd _) hda (by omega) (Nat.le_of_eq HSK.out.symm) g1 g2 40, permIn_trans _ _ _ 0 sz HP.out (permIn_mono _ _ a sz 0 sz (Nat.zero_le _) (Nat.le_refl _) (Nat.le_of_eq HSK.out.symm) g1), by rw [g1.1]; exact HSK.out⟩)
      have C1 := Lib.hid (CI.out a sz dk wr HSK.out has (Nat.le_refl _) S1.out (seg_asc HSEG.out (Nat.le_refl _)))
      clear hab hda S1 HSEG HP
      go_wp2_with fail
      refine C1.out.mono ?_
      rintro e w2 ⟨rfl, d2, g1, g2, g3⟩
      have N2 := NX.out d2 g1 g2
      have N2a := Lib.hid N2.1
      have N2b := Lib.hid N2.2.1
      have N2c := Lib.hid N2.2.2
      have S2 : Aside (SW enc w0 blk off d2 w2) := g3
      clear g1 g2 g3 N2 C1 NX HSK HAB hz hzd hlt has hgh
      go_wp2_with fail
      go_loopg [6] sz (fun gh vs wr => ∃ (bs : Nat) (dk : Array Nat), vs = .int .i64 bs ∧ 0 < bs ∧ bs ≤ 2000000000 ∧ sz - bs ≤ gh ∧ Hid (dk.size = sz) ∧ Hid (Seg key dk sz (cuts bs (2 * bs) 0)) ∧ Hid (PermIn 0 sz d dk) ∧ Aside (SW enc w0 blk off dk wr))
      case atStart => exact ⟨20, d2, rfl, by omega, by omega, by omega, N2c, N2a, N2b, S2⟩
      case round =>
        clear S2 N2a N2b N2c
        obtain ⟨bs, dk, rfl, hbs, hbs2, hgh, HSK, HSEG, HP, S1⟩ := hrel
        by_cases hlt : bs < sz
        · have hz : (bs : Int) < (sz : Int) := by omega
          obtain ⟨B, hB⟩ : ∃ B, B = 2 * bs := ⟨_, rfl⟩
          have eB : (2 : Int) * (bs : Int) = (B : Int) := by omega
          have eB2 : (bs : Int) * 2 = (B : Int) := by omega
          have wB : IntKind.i64.wrap (B : Int) = (B : Int) := by rw [IntKind.wrap_i64]; omega
          have HB := Lib.hid hB
          rw [← hB] at HSEG
          have hB1 : B ≤ 2000000000 ∧ bs < B ∧ sz - B < sz - bs := by omega
          have hbB : Hid (bs ∣ B) := Lib.hid ⟨2, by rw [HB.out, Nat.mul_comm]⟩
          clear hB
          go_wp2_with fail
          go_loopg [7, 8] sz (fun gh va vb wr => ∃ (a b : Nat) (dk : Array Nat), va = .int .i64 a ∧ vb = .int .i64 b ∧ Hid (b = a + B) ∧ Hid (B ∣ a) ∧ a ≤ sz ∧ sz - a ≤ gh ∧ Hid (dk.size = sz) ∧ Hid (Seg key dk sz (cuts bs B a)) ∧ Hid (PermIn 0 sz d dk) ∧ Aside (SW enc w0 blk off dk wr))
          case atStart => exact ⟨0, B, dk, rfl, rfl, Lib.hid (Nat.zero_add _).symm, Lib.hid (Nat.dvd_zero _), Nat.zero_le _, Nat.le_refl _, HSK, HSEG, HP, S1⟩
          case round =>
            clear S1 HSEG HP HSK
            obtain ⟨a, b, dk, rfl, rfl, HAB, HDA, has, hgh2, HSK, HSEG, HP, S1⟩ := hrel
            obtain ⟨m, hm⟩ : ∃ m, m = a + bs := ⟨_, rfl⟩
            have em : (a : Int) + (bs : Int) = (m : Int) := by omega
            have wm : IntKind.i64.wrap (m : Int) = (m : Int) := by rw [IntKind.wrap_i64]; omega
            have HM := Lib.hid hm
            have hb0 := HAB.out
            have hB0 := HB.out
            have hmb : a < m ∧ m < b ∧ b < 4000000000 := by omega
            clear hm
            have hdd : 2 * bs ∣ a := by have := HDA.out; rw [HB.out] at this; exact this
            have HDD := Lib.hid hdd
            clear hdd
            have HSEG2 : Hid (Seg key dk sz (cuts bs (2 * bs) a)) := Lib.hid (by have := HSEG.out; rw [HB.out] at this; exact this)
            by_cases hle : b ≤ sz
            · have hz2 : (b : Int) ≤ (sz : Int) := by omega
              have hzd : decide ((b : Int) ≤ (sz : Int)) = true := decide_eq_true hz2
              obtain ⟨c, hc⟩ : ∃ c, c = b + B := ⟨_, rfl⟩
              have ec : (b : Int) + (B : Int) = (c : Int) := by omega
              have wc1 : IntKind.i64.wrap (c : Int) = (c : Int) := by rw [IntKind.wrap_i64]; omega
              have HC2 := Lib.hid hc
              have hm2 : sz - b < sz - a := by omega
              have HDB : Hid (B ∣ b) := Lib.hid (by rw [HAB.out]; exact (Nat.dvd_add_iff_left (Nat.dvd_refl B)).1 HDA.out)
              have NX : Hid (∀ d2, PermIn a b dk d2 → Srt key d2 a b → Seg key d2 sz (cuts bs B b) ∧ PermIn 0 sz d d2 ∧ d2.size = sz) := Lib.hid (fun d2 g1 g2 => by
                have h1 := HAB.out
                rw [h1] at g1 g2 hle ⊢
                exact ⟨seg_next HSEG.out hbB.out HDA.out hle (Nat.le_of_eq HSK.out.symm) g1 g2, permIn_trans _ _ _ 0 sz HP.out (permIn_mono _ _ a (a + B) 0 sz (Nat.zero_le _) hle (Nat.le_of_eq HSK.out.symm) g1), by rw [g1.1]; exact HSK.out⟩)
              have T2 : Two key dk a m b := by rw [HM.out]; exact seg_two HSEG2.out HDD.out hle (by omega) (by omega) hbs
              have C1 := Lib.hid (CM.out a m b dk wr HSK.out hmb.1 hmb.2.1 hle T2 S1.out)
              clear hc hb0 hB0 T2 S1 HSEG HSEG2 HP
              go_wp2_with fail
              refine C1.out.mono ?_
              rintro e w2 ⟨rfl, d2, g1, g2, g3⟩
              have N2 := NX.out d2 g1 g2
              have N2a := Lib.hid N2.1
              have N2b := Lib.hid N2.2.1
              have N2c := Lib.hid N2.2.2
              have S2 : Aside (SW enc w0 blk off d2 w2) := g3
              clear g1 g2 g3 N2 C1
              go_wp2_with fail
              go_roundg (sz - b)
              case measure => omega
              case rel => exact ⟨b, c, d2, rfl, by first | rfl | go_num, HC2, HDB, hle, Nat.le_refl _, N2c, N2a, N2b, S2⟩
            · have hz2 : ¬ (b : Int) ≤ (sz : Int) := by omega
              have hzd : decide ((b : Int) ≤ (sz : Int)) = false := decide_eq_false hz2
              have NX : Hid (∀ d2, PermIn a sz dk d2 → Srt key d2 a sz → Seg key d2 sz (cuts B (2 * B) 0) ∧ PermIn 0 sz d d2 ∧ d2.size = sz) := Lib.hid (fun d2 g1 g2 => by
                exact ⟨seg_last HSEG.out hbB.out HDA.out (by omega) (Nat.le_of_eq HSK.out.symm) g1 g2 (2 * B), permIn_trans _ _ _ 0 sz HP.out (permIn_mono _ _ a sz 0 sz (Nat.zero_le _) (Nat.le_refl _) (Nat.le_of_eq HSK.out.symm) g1), by rw [g1.1]; exact HSK.out⟩)
              by_cases hmn : m < sz
              · have hz3 : (m : Int) < (sz : Int) := by omega
                have T2 : Two key dk a m sz := by rw [HM.out]; exact seg_two HSEG2.out HDD.out (Nat.le_refl _) (by omega) (by omega) hbs
                have C1 := Lib.hid (CM.out a m sz dk wr HSK.out hmb.1 hmn (Nat.le_refl _) T2 S1.out)
                clear hb0 hB0 T2 S1 HSEG HSEG2 HP
                go_wp2_with fail
                refine C1.out.mono ?_
                rintro e w2 ⟨rfl, d2, g1, g2, g3⟩
                have N2 := NX.out d2 g1 g2
                have N2a := Lib.hid N2.1
                have N2b := Lib.hid N2.2.1
                have N2c := Lib.hid N2.2.2
                have S2 : Aside (SW enc w0 blk off d2 w2) := g3
                clear g1 g2 g3 N2 C1
                go_wp2_with fail
                go_roundg (sz - B)
                case measure => omega
                case rel => exact ⟨B, d2, by first | rfl | go_num, by omega, hB1.1, Nat.le_refl _, N2c, N2a, N2b, S2⟩
              · have hz3 : ¬ (m : Int) < (sz : Int) := by omega
                have N2 := NX.out dk (permIn_refl _ _ _) (seg_rest HSEG2.out HDD.out (by omega))
                have N2a := Lib.hid N2.1
                have N2b := Lib.hid N2.2.1
                have N2c := Lib.hid N2.2.2
                clear N2 NX hb0 hB0 HSEG HSEG2 HP
                go_wp2_with fail
                go_roundg (sz - B)
                case measure => omega
                case rel => exact ⟨B, dk, by first | rfl | go_num, by omega, hB1.1, Nat.le_refl _, N2c, N2a, N2b, S1⟩
        · have hz : ¬ (bs : Int) < (sz : Int) := by omega
          have F := Lib.hid (seg_end HSEG.out (by omega))
          go_wp2_with fail
          go_end0
          exact ⟨rfl, dk, HP.out, F.out, S1.out⟩
set_option maxHeartbeats 16000000 in
set_option maxRecDepth 1000000 in
theorem sort_I (enc : Nat → Value) (key : Nat → Nat) (g : Nat) (cb : Array Value) (blk off cap sz : Nat) (d0 : Array Nat) (w0 : World) (eg : ∀ args w, (callFunc g args).run Tryd.prog w = .ok (.enter g args) w) (hcmp : 0 < sz → CmpLays1 Tryd.prog g cb enc (cmpK key) blk off d0.size w0) (R : Row1 enc w0 blk off d0) (hs0 : d0.size = sz) (hsz : sz < 1000000000) (d : Array Nat) (w : World) (hs : d.size = sz) (hA : Asc d 0 sz) (S : SW enc w0 blk off d w) :
    Calls Tryd.prog 61 #[.slice (some ⟨blk, off, none⟩) sz cap, .func (.func g) #[] cb] w (MgI enc key w0 blk off d 0 sz) := by
  have C := Lib.hid (stable_I enc key g cb blk off cap sz d0 w0 eg hcmp R hs0 hsz d w hs hA S)
  clear S hs hA hcmp
  go_enter Tryd.func61, Tryd.ntmps61
  go_wp2_with fail
  refine C.out.mono ?_
  rintro e w2 ⟨rfl, d2, g1, g2, g3⟩
  have F : Hid (MgI enc key w0 blk off d 0 sz (.returned (.tuple #[])) w2) := Lib.hid ⟨rfl, d2, g1, g2, g3⟩
  clear g1 g2 g3
  go_wp2_with fail
  go_end0
  exact F.out
end Go.Proofs.YtbegngilbngnoaaDoor.St
