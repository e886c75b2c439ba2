/- StXI StXP StII StIP StYI StYP -/
import Derived.Test.YtjnehpkkkmicfaaBnG
import Derived.Deep.CutRange
import Derived.Shelf.SlSortCmp.QuietGrown
namespace Go.Proofs.Ytjnehpkkkmicfaa.St
open Go.Shelf Go.RowKit Go.Lib Go.Sort Go.Proofs

def MgI (enc : Nat → Value) (key : Nat → Nat) (w0 : World) (blk off : Nat) (d : Array Nat) (a b : Nat) (e : Ending) (w' : World) : Prop := e = .returned (.tuple #[]) ∧ ∃ d', PermIn a b d d' ∧ Srt key d' a b ∧ SW enc w0 blk off d' w'
set_option maxHeartbeats 16000000 in
set_option maxRecDepth 1000000 in
theorem symMerge_I (enc : Nat → Value) (key : Nat → Nat) (g : Nat) (cb : Array Value) (blk off cap sz : Nat) (d0 : Array Nat) (w0 : World) (eg : ∀ args w, (callFunc g args).run Try.prog w = .ok (.enter g args) w) (hcmp : 0 < sz → CmpLays1 Try.prog g cb enc (cmpK key) blk off d0.size w0) (R : Row1 enc w0 blk off d0) (hs0 : d0.size = sz) (hsz : sz < 1000000000) : ∀ (N a m b : Nat) (d : Array Nat) (w : World), b - a ≤ N → d.size = sz → a < m → m < b → b ≤ sz → Two key d a m b → SW enc w0 blk off d w →
    Calls Try.prog 96 #[.slice (some ⟨blk, off, none⟩) sz cap, .int .i64 a, .int .i64 m, .int .i64 b, .func (.func g) #[] cb] w (MgI enc key w0 blk off d a b) := by
  have mixed : Try.prog.follows Departure.mixedOrders = true := by kernel_rfl
  have hcl0 := R.hO.cells
  simp only [Value.cells] at hcl0
  have hst := R.hO.store Try.prog
  have HC : Aside _ := hcmp
  clear hcmp
  intro N
  induction N with
  | zero => intro a m b d w h1 _ h2 h3; omega
  | succ N ih =>
    intro a m b d w hN hs ham hmb hb T S
    have IH := Lib.hid ih
    clear ih
    have S0 : Aside (SW enc w0 blk off d w) := S
    have HT := Lib.hid T
    have HS := Lib.hid hs
    clear S T hs
    have hbd : Hid (b ≤ d.size) := Lib.hid (by rw [HS.out]; exact hb)
    obtain ⟨q1, hq1⟩ : ∃ x, x = m - a := ⟨_, rfl⟩
    obtain ⟨q2, hq2⟩ : ∃ x, x = b - m := ⟨_, rfl⟩
    have z1 : (m : Int) - (a : Int) = (q1 : Int) := by omega
    have z2 : (b : Int) - (m : Int) = (q2 : Int) := by omega
    have z3 : IntKind.i64.wrap (q1 : Int) = (q1 : Int) := by rw [IntKind.wrap_i64]; omega
    have z4 : IntKind.i64.wrap (q2 : Int) = (q2 : Int) := by rw [IntKind.wrap_i64]; omega
    have HQ1 := Lib.hid hq1
    have HQ2 := Lib.hid hq2
    clear hq1 hq2
    by_cases c1 : q1 = 1
    · have hm : m = a + 1 := by have := HQ1.out; omega
      have HM := Lib.hid hm
      clear hm
      have t1 : ((q1 : Int) == 1) = true := by rw [beq_iff_eq]; omega
      go_enter Try.func96, Try.ntmps96
      go_wp2_with fail
      go_loopg [10, 11] sz (fun gh vi vj wr => ∃ (i j : Nat), vi = .int .i64 i ∧ vj = .int .i64 j ∧ m ≤ i ∧ i ≤ j ∧ j ≤ b ∧ j - i ≤ gh ∧ Hid (∀ t, m ≤ t → t < i → key d[t]! < key d[a]!) ∧ Hid (∀ t, j ≤ t → t < b → ¬ key d[t]! < key d[a]!) ∧ Aside (SW enc w0 blk off d wr))
      case atStart => exact ⟨m, b, rfl, rfl, Nat.le_refl _, by omega, Nat.le_refl _, by omega, Lib.hid (fun t _ _ => by omega), Lib.hid (fun t _ _ => by omega), S0⟩
      case round =>
        clear S0
        obtain ⟨i, j, rfl, rfl, hmi, hij, hjb, hgh, HL, HR, S1⟩ := hrel
        by_cases hlt : i < j
        · obtain ⟨h, hh⟩ : ∃ h, h = (i + j) / 2 := ⟨_, rfl⟩
          have e1 : ((i : Int) + (j : Int)) / 2 = (h : Int) := by omega
          have e2 : ((i : Int) + (j : Int)).tdiv 2 = (h : Int) := by rw [Int.tdiv_eq_ediv_of_nonneg (by omega)]; exact e1
          have hb1 : i ≤ h := by omega
          have hb2 : h < j := by omega
          have hz : (i : Int) < (j : Int) := by omega
          clear hh
          by_cases hv : cmpK key d[h]! d[a]! < 0
          · have HL2 : Hid (∀ t, m ≤ t → t < h + 1 → key d[t]! < key d[a]!) := Lib.hid (fun t g1 g2 => by have := HT.out.right.le g1 (show t ≤ h by omega) (by omega); have := cmp_lt.1 hv; omega)
            have p0a100 : (0 : Int) ≤ (h : Int) := by omega
            have p1a100 : (h : Int) < (sz : Int) := by omega
            have p0b100 : (0 : Int) ≤ (a : Int) := by omega
            have p1b100 : (a : Int) < (sz : Int) := by omega
            have hsz0 : d.size = sz := HS.out
            obtain ⟨x100, hx100⟩ : ∃ x, x = d[h]! := ⟨_, rfl⟩
            obtain ⟨y100, hy100⟩ : ∃ x, x = d[a]! := ⟨_, rfl⟩
            have la100 := S1.out.cl R (by omega) h (by omega)
            have lb100 := S1.out.cl R (by omega) a (by omega)
            rw [← hx100] at la100
            rw [← hy100] at lb100
            have hc100 := S1.out.cmp (HC.out (by omega)) (by omega) x100 y100
            have hd100 : decide (cmpK key x100 y100 < 0) = true := by rw [hx100, hy100]; exact decide_eq_true hv
            generalize cmpK key x100 y100 = cv100 at hc100 hd100
            clear hx100 hy100 hsz0
            go_wp2_with fail
            go_quiet_grown (first | (go_at_fn g; refine Calls.grown_of (hc100 _ _)))
            have S2 : Aside (SW enc w0 blk off d (grow (wr.drewN nq) osq)) := S1.out.grown nq osq
            clear la100 lb100 hc100 S1
            generalize grow (wr.drewN nq) osq = w2 at S2 ⊢
            clear nq osq
            go_wp2_with fail
            go_roundg (j - (h + 1))
            case measure => omega
            case rel => exact ⟨h + 1, j, by go_num, rfl, by omega, by omega, hjb, Nat.le_refl _, HL2, HR, S2⟩
          · have HR2 : Hid (∀ t, h ≤ t → t < b → ¬ key d[t]! < key d[a]!) := Lib.hid (fun t g1 g2 => by have := HT.out.right.le (show m ≤ h by omega) g1 g2; have : ¬ key d[h]! < key d[a]! := fun q => hv (cmp_lt.2 q); omega)
            have p0a101 : (0 : Int) ≤ (h : Int) := by omega
            have p1a101 : (h : Int) < (sz : Int) := by omega
            have p0b101 : (0 : Int) ≤ (a : Int) := by omega
            have p1b101 : (a : Int) < (sz : Int) := by omega
            have hsz0 : d.size = sz := HS.out
            obtain ⟨x101, hx101⟩ : ∃ x, x = d[h]! := ⟨_, rfl⟩
            obtain ⟨y101, hy101⟩ : ∃ x, x = d[a]! := ⟨_, rfl⟩
            have la101 := S1.out.cl R (by omega) h (by omega)
            have lb101 := S1.out.cl R (by omega) a (by omega)
            rw [← hx101] at la101
            rw [← hy101] at lb101
            have hc101 := S1.out.cmp (HC.out (by omega)) (by omega) x101 y101
            have hd101 : decide (cmpK key x101 y101 < 0) = false := by rw [hx101, hy101]; exact decide_eq_false hv
            generalize cmpK key x101 y101 = cv101 at hc101 hd101
            clear hx101 hy101 hsz0
            go_wp2_with fail
            go_quiet_grown (first | (go_at_fn g; refine Calls.grown_of (hc101 _ _)))
            have S2 : Aside (SW enc w0 blk off d (grow (wr.drewN nq) osq)) := S1.out.grown nq osq
            clear la101 lb101 hc101 S1
            generalize grow (wr.drewN nq) osq = w2 at S2 ⊢
            clear nq osq
            go_wp2_with fail
            go_roundg (h - i)
            case measure => omega
            case rel => exact ⟨i, h, rfl, rfl, hmi, by omega, by omega, Nat.le_refl _, HL, HR2, S2⟩
        · obtain rfl : i = j := by omega
          have iz : ¬ (i : Int) < (i : Int) := by omega
          obtain ⟨i1, rfl⟩ : ∃ i1, i = i1 + 1 := ⟨i - 1, by omega⟩
          have HF : Hid (PermIn a b d (Rot d a m (i1 + 1)) ∧ Srt key (Rot d a m (i1 + 1)) a b) := Lib.hid (by
            have hm := HM.out
            subst hm
            exact ⟨permIn_mono _ _ a (i1 + 1) a b (Nat.le_refl _) hjb hbd.out (rot_perm (by omega) hmi (by have := hbd.out; omega)), one_left HT.out hbd.out hmi hjb HL.out HR.out⟩)
          have ei : ((i1 + 1 : Nat) : Int) - 1 = (i1 : Int) := by omega
          have wi : IntKind.i64.wrap (i1 : Int) = (i1 : Int) := by rw [IntKind.wrap_i64]; omega
          go_wp2_with fail
          go_loopg [13] sz (fun gh vk wr => ∃ (kk : Nat) (dk : Array Nat), vk = .int .i64 kk ∧ a ≤ kk ∧ kk ≤ i1 ∧ i1 - kk ≤ gh ∧ dk.size = sz ∧ Hid (dk = Rot d a m (kk + 1)) ∧ Aside (SW enc w0 blk off dk wr))
          case atStart => exact ⟨a, d, rfl, Nat.le_refl _, by have := HM.out; omega, by omega, HS.out, Lib.hid (rot_id (.inr HM.out)).symm, S1⟩
          case round =>
            clear S1
            obtain ⟨kk, dk, rfl, hak, hki, hgk, hsk, HD, S1⟩ := hrel
            by_cases hlk : kk < i1
            · have kz : (kk : Int) < (i1 : Int) := by omega
              obtain ⟨q, hq⟩ : ∃ q, q = kk + 1 := ⟨_, rfl⟩
              have eq : (kk : Int) + 1 = (q : Int) := by omega
              have wq : IntKind.i64.wrap (q : Int) = (q : Int) := by rw [IntKind.wrap_i64]; omega
              have HN : Hid (swp dk kk q = Rot d a m (q + 1)) := Lib.hid (by rw [HD.out, hq, HM.out]; exact rot_up hak (by rw [HS.out]; omega))
              have hqz : q ≤ i1 ∧ q < sz ∧ a ≤ q ∧ i1 - q < i1 - kk := by omega
              clear hq
              go_wp2_with fail
              have p0a102 : (0 : Int) ≤ (kk : Int) := by omega
              have p1a102 : (kk : Int) < (sz : Int) := by omega
              have p0b102 : (0 : Int) ≤ (q : Int) := by omega
              have p1b102 : (q : Int) < (sz : Int) := by omega
              obtain ⟨x102, hx102⟩ : ∃ x, x = dk[kk]! := ⟨_, rfl⟩
              obtain ⟨y102, hy102⟩ : ∃ x, x = dk[q]! := ⟨_, rfl⟩
              have S2 : Aside (SW enc w0 blk off (swp dk kk q) ((wr.setCell ⟨blk, off + kk, none⟩ (enc y102)).setCell ⟨blk, off + q, none⟩ (enc x102)).drew) := by rw [hx102, hy102]; exact S1.out.swapped R kk q (by omega) (by omega)
              have ca102 := S1.out.c1 R (by omega) kk (by omega)
              have cb102 := S1.out.c1 R (by omega) q (by omega)
              have fa102 := S1.out.f1 R (by omega) kk (by omega)
              have fb102 := S1.out.f1 R (by omega) q (by omega)
              obtain ⟨u102, cc102⟩ := S1.out.c2 R (by omega) kk q (by omega) (by omega) (enc y102)
              rw [← hx102] at ca102
              rw [← hy102] at cb102
              clear hx102 hy102 S1
              go_wp2_with fail
              go_big_region_o
              clear ca102 cb102 cc102 fa102 fb102
              generalize ((wr.setCell ⟨blk, off + kk, none⟩ (enc y102)).setCell ⟨blk, off + q, none⟩ (enc x102)).drew = w2 at S2 ⊢
              go_wp2_with fail
              go_roundg (i1 - q)
              case measure => omega
              case rel => exact ⟨q, swp dk kk q, by first | rfl | go_num, hqz.2.2.1, hqz.1, Nat.le_refl _, by rw [size_swp]; exact hsk, HN, S2⟩
            · obtain rfl : kk = i1 := by omega
              have kz : ¬ (kk : Int) < (kk : Int) := by omega
              go_wp2_with fail
              go_end0
              exact ⟨rfl, dk, by rw [HD.out]; exact HF.out.1, by rw [HD.out]; exact HF.out.2, S1.out⟩
    · have t1 : ((q1 : Int) == 1) = false := by rw [beq_eq_false_iff_ne]; omega
      by_cases c2 : q2 = 1
      · have hm : b = m + 1 := by have := HQ2.out; omega
        have HM := Lib.hid hm
        clear hm
        have HT2 : Hid (Two key d a m (m + 1)) := Lib.hid (by have := HT.out; rw [HM.out] at this; exact this)
        have t2 : ((q2 : Int) == 1) = true := by rw [beq_iff_eq]; omega
        go_enter Try.func96, Try.ntmps96
        go_wp2_with fail
        go_loopg [14, 15] sz (fun gh vi vj wr => ∃ (i j : Nat), vi = .int .i64 i ∧ vj = .int .i64 j ∧ a ≤ i ∧ i ≤ j ∧ j ≤ m ∧ j - i ≤ gh ∧ Hid (∀ t, a ≤ t → t < i → ¬ key d[m]! < key d[t]!) ∧ Hid (∀ t, j ≤ t → t < m → key d[m]! < key d[t]!) ∧ Aside (SW enc w0 blk off d wr))
        case atStart => exact ⟨a, m, rfl, rfl, Nat.le_refl _, by omega, Nat.le_refl _, by omega, Lib.hid (fun t _ _ => by omega), Lib.hid (fun t _ _ => by omega), S0⟩
        case round =>
          clear S0
          obtain ⟨i, j, rfl, rfl, hmi, hij, hjb, hgh, HL, HR, S1⟩ := hrel
          by_cases hlt : i < j
          · obtain ⟨h, hh⟩ : ∃ h, h = (i + j) / 2 := ⟨_, rfl⟩
            have e1 : ((i : Int) + (j : Int)) / 2 = (h : Int) := by omega
            have e2 : ((i : Int) + (j : Int)).tdiv 2 = (h : Int) := by rw [Int.tdiv_eq_ediv_of_nonneg (by omega)]; exact e1
            have hb1 : i ≤ h := by omega
            have hb2 : h < j := by omega
            have hz : (i : Int) < (j : Int) := by omega
            clear hh
            by_cases hv : cmpK key d[m]! d[h]! < 0
            · have HR2 : Hid (∀ t, h ≤ t → t < m → key d[m]! < key d[t]!) := Lib.hid (fun t g1 g2 => by have := HT.out.left.le (show a ≤ h by omega) g1 g2; have := cmp_lt.1 hv; omega)
              have p0a103 : (0 : Int) ≤ (m : Int) := by omega
              have p1a103 : (m : Int) < (sz : Int) := by omega
              have p0b103 : (0 : Int) ≤ (h : Int) := by omega
              have p1b103 : (h : Int) < (sz : Int) := by omega
              have hsz0 : d.size = sz := HS.out
              obtain ⟨x103, hx103⟩ : ∃ x, x = d[m]! := ⟨_, rfl⟩
              obtain ⟨y103, hy103⟩ : ∃ x, x = d[h]! := ⟨_, rfl⟩
              have la103 := S1.out.cl R (by omega) m (by omega)
              have lb103 := S1.out.cl R (by omega) h (by omega)
              rw [← hx103] at la103
              rw [← hy103] at lb103
              have hc103 := S1.out.cmp (HC.out (by omega)) (by omega) x103 y103
              have hd103 : decide (cmpK key x103 y103 < 0) = true := by rw [hx103, hy103]; exact decide_eq_true hv
              generalize cmpK key x103 y103 = cv103 at hc103 hd103
              clear hx103 hy103 hsz0
              go_wp2_with fail
              go_quiet_grown (first | (go_at_fn g; refine Calls.grown_of (hc103 _ _)))
              have S2 : Aside (SW enc w0 blk off d (grow (wr.drewN nq) osq)) := S1.out.grown nq osq
              clear la103 lb103 hc103 S1
              generalize grow (wr.drewN nq) osq = w2 at S2 ⊢
              clear nq osq
              go_wp2_with fail
              go_roundg (h - i)
              case measure => omega
              case rel => exact ⟨i, h, rfl, rfl, hmi, by omega, by omega, Nat.le_refl _, HL, HR2, S2⟩
            · have HL2 : Hid (∀ t, a ≤ t → t < h + 1 → ¬ key d[m]! < key d[t]!) := Lib.hid (fun t g1 g2 => by have := HT.out.left.le g1 (show t ≤ h by omega) (by omega); have : ¬ key d[m]! < key d[h]! := fun q => hv (cmp_lt.2 q); omega)
              have p0a104 : (0 : Int) ≤ (m : Int) := by omega
              have p1a104 : (m : Int) < (sz : Int) := by omega
              have p0b104 : (0 : Int) ≤ (h : Int) := by omega
              have p1b104 : (h : Int) < (sz : Int) := by omega
              have hsz0 : d.size = sz := HS.out
              obtain ⟨x104, hx104⟩ : ∃ x, x = d[m]! := ⟨_, rfl⟩
              obtain ⟨y104, hy104⟩ : ∃ x, x = d[h]! := ⟨_, rfl⟩
              have la104 := S1.out.cl R (by omega) m (by omega)
              have lb104 := S1.out.cl R (by omega) h (by omega)
              rw [← hx104] at la104
              rw [← hy104] at lb104
              have hc104 := S1.out.cmp (HC.out (by omega)) (by omega) x104 y104
              have hd104 : decide (cmpK key x104 y104 < 0) = false := by rw [hx104, hy104]; exact decide_eq_false hv
              generalize cmpK key x104 y104 = cv104 at hc104 hd104
              clear hx104 hy104 hsz0
              go_wp2_with fail
              go_quiet_grown (first | (go_at_fn g; refine Calls.grown_of (hc104 _ _)))
              have S2 : Aside (SW enc w0 blk off d (grow (wr.drewN nq) osq)) := S1.out.grown nq osq
              clear la104 lb104 hc104 S1
              generalize grow (wr.drewN nq) osq = w2 at S2 ⊢
              clear nq osq
              go_wp2_with fail
              go_roundg (j - (h + 1))
              case measure => omega
              case rel => exact ⟨h + 1, j, by go_num, rfl, by omega, by omega, hjb, Nat.le_refl _, HL2, HR, S2⟩
          · obtain rfl : i = j := by omega
            have iz : ¬ (i : Int) < (i : Int) := by omega
            have HF : Hid (PermIn a b d (Rot d i m (m + 1)) ∧ Srt key (Rot d i m (m + 1)) a b) := Lib.hid (by
              have h1 := hbd.out
              rw [HM.out] at h1 ⊢
              exact ⟨permIn_mono _ _ i (m + 1) a (m + 1) hmi (Nat.le_refl _) h1 (rot_perm hjb (by omega) h1), one_right HT2.out h1 hmi hjb HL.out HR.out⟩)
            go_wp2_with fail
            go_loopg [17] sz (fun gh vk wr => ∃ (kk : Nat) (dk : Array Nat), vk = .int .i64 kk ∧ i ≤ kk ∧ kk ≤ m ∧ kk - i ≤ gh ∧ dk.size = sz ∧ Hid (dk = Rot d kk m (m + 1)) ∧ Aside (SW enc w0 blk off dk wr))
            case atStart => exact ⟨m, d, rfl, hjb, Nat.le_refl _, by omega, HS.out, Lib.hid (rot_id (.inl rfl)).symm, S1⟩
            case round =>
              clear S1
              obtain ⟨kk, dk, rfl, hak, hki, hgk, hsk, HD, S1⟩ := hrel
              by_cases hlk : i < kk
              · have kz : (i : Int) < (kk : Int) := by omega
                obtain ⟨q, hq⟩ : ∃ q, q = kk - 1 := ⟨_, rfl⟩
                have eq : (kk : Int) - 1 = (q : Int) := by omega
                have wq : IntKind.i64.wrap (q : Int) = (q : Int) := by rw [IntKind.wrap_i64]; omega
                have HN : Hid (swp dk kk q = Rot d q m (m + 1)) := Lib.hid (by rw [HD.out, hq]; exact rot_down (by omega) hki (by rw [HS.out]; omega))
                have hqz : i ≤ q ∧ q < sz ∧ q ≤ m ∧ q - i < kk - i := by omega
                clear hq
                go_wp2_with fail
                have p0a105 : (0 : Int) ≤ (kk : Int) := by omega
                have p1a105 : (kk : Int) < (sz : Int) := by omega
                have p0b105 : (0 : Int) ≤ (q : Int) := by omega
                have p1b105 : (q : Int) < (sz : Int) := by omega
                obtain ⟨x105, hx105⟩ : ∃ x, x = dk[kk]! := ⟨_, rfl⟩
                obtain ⟨y105, hy105⟩ : ∃ x, x = dk[q]! := ⟨_, rfl⟩
                have S2 : Aside (SW enc w0 blk off (swp dk kk q) ((wr.setCell ⟨blk, off + kk, none⟩ (enc y105)).setCell ⟨blk, off + q, none⟩ (enc x105)).drew) := by rw [hx105, hy105]; exact S1.out.swapped R kk q (by omega) (by omega)
                have ca105 := S1.out.c1 R (by omega) kk (by omega)
                have cb105 := S1.out.c1 R (by omega) q (by omega)
                have fa105 := S1.out.f1 R (by omega) kk (by omega)
                have fb105 := S1.out.f1 R (by omega) q (by omega)
                obtain ⟨u105, cc105⟩ := S1.out.c2 R (by omega) kk q (by omega) (by omega) (enc y105)
                rw [← hx105] at ca105
                rw [← hy105] at cb105
                clear hx105 hy105 S1
                go_wp2_with fail
                go_big_region_o
                clear ca105 cb105 cc105 fa105 fb105
                generalize ((wr.setCell ⟨blk, off + kk, none⟩ (enc y105)).setCell ⟨blk, off + q, none⟩ (enc x105)).drew = w2 at S2 ⊢
                go_wp2_with fail
                go_roundg (q - i)
                case measure => omega
                case rel => exact ⟨q, swp dk kk q, by first | rfl | go_num, hqz.1, hqz.2.2.1, Nat.le_refl _, by rw [size_swp]; exact hsk, HN, S2⟩
              · obtain rfl : i = kk := by omega
                have kz : ¬ (i : Int) < (i : Int) := by omega
                go_wp2_with fail
                go_end0
                exact ⟨rfl, dk, by rw [HD.out]; exact HF.out.1, by rw [HD.out]; exact HF.out.2, S1.out⟩
      · have t2 : ((q2 : Int) == 1) = false := by rw [beq_eq_false_iff_ne]; omega
        have CR : Hid (∀ (dk : Array Nat) (W : World) (a m b : Nat), dk.size = sz → SW enc w0 blk off dk W → a < m → m < b → b ≤ sz → Calls Try.prog 98 #[.slice (some ⟨blk, off, none⟩) sz cap, .int .i64 a, .int .i64 m, .int .i64 b, .func (.func g) #[] cb] W fun e w' => e = .returned (.tuple #[]) ∧ SW enc w0 blk off (Rot dk a m b) w') := Lib.hid (fun dk W a m b h1 h2 h3 h4 h5 => rotate_I enc g cb blk off cap sz d0 dk w0 W R hs0 h1 hsz h2 a m b h3 h4 h5)
        obtain ⟨mid, hmid⟩ : ∃ x, x = (a + b) / 2 := ⟨_, rfl⟩
        have h6 : 2 * mid ≤ a + b := by omega
        have h7 : a + b < 2 * mid + 2 := by omega
        have em1 : ((a : Int) + (b : Int)) / 2 = (mid : Int) := by omega
        have em2 : ((a : Int) + (b : Int)).tdiv 2 = (mid : Int) := by rw [Int.tdiv_eq_ediv_of_nonneg (by omega)]; exact em1
        clear hmid
        obtain ⟨nn, hnn⟩ : ∃ x, x = mid + m := ⟨_, rfl⟩
        have en : (mid : Int) + (m : Int) = (nn : Int) := by omega
        have wn : IntKind.i64.wrap (nn : Int) = (nn : Int) := by rw [IntKind.wrap_i64]; omega
        obtain ⟨pp, hpp⟩ : ∃ x, x = nn - 1 := ⟨_, rfl⟩
        have epp : (nn : Int) - 1 = (pp : Int) := by omega
        have wpp : IntKind.i64.wrap (pp : Int) = (pp : Int) := by rw [IntKind.wrap_i64]; omega
        have HNN := Lib.hid hnn
        have HPP : Hid (pp = mid + m - 1) := Lib.hid (by omega)
        clear hnn hpp
        go_enter Try.func96, Try.ntmps96
        go_upto_if 140 with fail
        go_cut [20, 21] from 135 (fun v20 v21 wx => ∃ s0 r0 : Nat, v20 = .int .i64 s0 ∧ v21 = .int .i64 r0 ∧ Rng a m b mid s0 r0 ∧ s0 ≤ r0 ∧ Aside (SW enc w0 blk off d wx))
        case first =>
          by_cases c3 : mid < m
          · have c3z : (mid : Int) < (m : Int) := by omega
            obtain ⟨s0, hs1⟩ : ∃ x, x = nn - b := ⟨_, rfl⟩
            have hs3 : s0 + b = mid + m ∧ s0 ≤ mid ∧ b ≤ nn := by have := HNN.out; omega
            have es : (nn : Int) - (b : Int) = (s0 : Int) := by omega
            have ws : IntKind.i64.wrap (s0 : Int) = (s0 : Int) := by rw [IntKind.wrap_i64]; omega
            clear hs1
            go_wp2_with fail
            go_meet
            case rel => exact ⟨s0, mid, rfl, rfl, .inr ⟨hs3.1, rfl, c3⟩, hs3.2.1, S0⟩
          · have c3z : ¬ (mid : Int) < (m : Int) := by omega
            go_wp2_with fail
            go_meet
            case rel => exact ⟨a, m, rfl, rfl, .inl ⟨rfl, rfl, by omega⟩, by omega, S0⟩
        case rest =>
          clear S0
          obtain ⟨s0, r0, rfl, rfl, hR, hsr, S0⟩ := hcut
          have HRG := Lib.hid hR
          have hrb : r0 ≤ m := by unfold Rng at hR; omega
          have has : a ≤ s0 := by unfold Rng at hR; omega
          have hnb : ∀ c, s0 ≤ c → c < r0 → c ≤ pp ∧ pp - c < sz := by have := HPP.out; unfold Rng at hR; intro c _ _; omega
          have HNB := Lib.hid hnb
          clear hR hnb
          go_wp2_with fail
          go_loopg [20, 21] sz (fun gh vi vj wr => ∃ (i j : Nat), vi = .int .i64 i ∧ vj = .int .i64 j ∧ s0 ≤ i ∧ i ≤ j ∧ j ≤ r0 ∧ j - i ≤ gh ∧ Hid (∀ c, s0 ≤ c → c < i → ¬ key d[mid + m - 1 - c]! < key d[c]!) ∧ Hid (∀ c, j ≤ c → c < r0 → key d[mid + m - 1 - c]! < key d[c]!) ∧ Aside (SW enc w0 blk off d wr))
          case atStart => exact ⟨s0, r0, rfl, rfl, Nat.le_refl _, hsr, Nat.le_refl _, by omega, Lib.hid (fun t _ _ => by omega), Lib.hid (fun t _ _ => by omega), S0⟩
          case round =>
            clear S0
            obtain ⟨i, j, rfl, rfl, hmi, hij, hjb, hgh, HL, HR, S1⟩ := hrel
            by_cases hlt : i < j
            · obtain ⟨h, hh⟩ : ∃ h, h = (i + j) / 2 := ⟨_, rfl⟩
              have e1 : ((i : Int) + (j : Int)) / 2 = (h : Int) := by omega
              have e2 : ((i : Int) + (j : Int)).tdiv 2 = (h : Int) := by rw [Int.tdiv_eq_ediv_of_nonneg (by omega)]; exact e1
              have hb1 : i ≤ h := by omega
              have hb2 : h < j := by omega
              have hz : (i : Int) < (j : Int) := by omega
              clear hh
              obtain ⟨q, hq⟩ : ∃ x, x = pp - h := ⟨_, rfl⟩
              have hq0 := HNB.out h (by omega) (by omega)
              have eq : (pp : Int) - (h : Int) = (q : Int) := by omega
              have wq : IntKind.i64.wrap (q : Int) = (q : Int) := by rw [IntKind.wrap_i64]; omega
              have HQ : Hid (q = mid + m - 1 - h) := Lib.hid (by rw [hq, HPP.out])
              have hqz : q < sz := by omega
              clear hq hq0
              by_cases hv : cmpK key d[q]! d[h]! < 0
              · have HR2 : Hid (∀ c, h ≤ c → c < r0 → key d[mid + m - 1 - c]! < key d[c]!) := Lib.hid (fun c g1 g2 => probe_hi HT.out ham hmb h6 h7 HRG.out (show s0 ≤ h by omega) g1 g2 (by rw [← HQ.out]; exact cmp_lt.1 hv))
                have p0a106 : (0 : Int) ≤ (q : Int) := by omega
                have p1a106 : (q : Int) < (sz : Int) := by omega
                have p0b106 : (0 : Int) ≤ (h : Int) := by omega
                have p1b106 : (h : Int) < (sz : Int) := by omega
                have hsz0 : d.size = sz := HS.out
                obtain ⟨x106, hx106⟩ : ∃ x, x = d[q]! := ⟨_, rfl⟩
                obtain ⟨y106, hy106⟩ : ∃ x, x = d[h]! := ⟨_, rfl⟩
                have la106 := S1.out.cl R (by omega) q (by omega)
                have lb106 := S1.out.cl R (by omega) h (by omega)
                rw [← hx106] at la106
                rw [← hy106] at lb106
                have hc106 := S1.out.cmp (HC.out (by omega)) (by omega) x106 y106
                have hd106 : decide (cmpK key x106 y106 < 0) = true := by rw [hx106, hy106]; exact decide_eq_true hv
                generalize cmpK key x106 y106 = cv106 at hc106 hd106
                clear hx106 hy106 hsz0
                go_wp2_with fail
                go_quiet_grown (first | (go_at_fn g; refine Calls.grown_of (hc106 _ _)))
                have S2 : Aside (SW enc w0 blk off d (grow (wr.drewN nq) osq)) := S1.out.grown nq osq
                clear la106 lb106 hc106 S1
                generalize grow (wr.drewN nq) osq = w2 at S2 ⊢
                clear nq osq
                go_wp2_with fail
                go_roundg (h - i)
                case measure => omega
                case rel => exact ⟨i, h, rfl, rfl, hmi, by omega, by omega, Nat.le_refl _, HL, HR2, S2⟩
              · have HL2 : Hid (∀ c, s0 ≤ c → c < h + 1 → ¬ key d[mid + m - 1 - c]! < key d[c]!) := Lib.hid (fun c g1 g2 => probe_lo HT.out ham hmb h6 h7 HRG.out g1 (show c ≤ h by omega) (show h < r0 by omega) (by rw [← HQ.out]; exact fun q => hv (cmp_lt.2 q)))
                have p0a107 : (0 : Int) ≤ (q : Int) := by omega
                have p1a107 : (q : Int) < (sz : Int) := by omega
                have p0b107 : (0 : Int) ≤ (h : Int) := by omega
                have p1b107 : (h : Int) < (sz : Int) := by omega
                have hsz0 : d.size = sz := HS.out
                obtain ⟨x107, hx107⟩ : ∃ x, x = d[q]! := ⟨_, rfl⟩
                obtain ⟨y107, hy107⟩ : ∃ x, x = d[h]! := ⟨_, rfl⟩
                have la107 := S1.out.cl R (by omega) q (by omega)
                have lb107 := S1.out.cl R (by omega) h (by omega)
                rw [← hx107] at la107
                rw [← hy107] at lb107
                have hc107 := S1.out.cmp (HC.out (by omega)) (by omega) x107 y107
                have hd107 : decide (cmpK key x107 y107 < 0) = false := by rw [hx107, hy107]; exact decide_eq_false hv
                generalize cmpK key x107 y107 = cv107 at hc107 hd107
                clear hx107 hy107 hsz0
                go_wp2_with fail
                go_quiet_grown (first | (go_at_fn g; refine Calls.grown_of (hc107 _ _)))
                have S2 : Aside (SW enc w0 blk off d (grow (wr.drewN nq) osq)) := S1.out.grown nq osq
                clear la107 lb107 hc107 S1
                generalize grow (wr.drewN nq) osq = w2 at S2 ⊢
                clear nq osq
                go_wp2_with fail
                go_roundg (j - (h + 1))
                case measure => omega
                case rel => exact ⟨h + 1, j, by go_num, rfl, by omega, by omega, hjb, Nat.le_refl _, HL2, HR, S2⟩
            · obtain rfl : i = j := by omega
              have iz : ¬ (i : Int) < (i : Int) := by omega
              have HFD : Hid (Found key d a m b i (mid + m - i) mid) := Lib.hid (found_of HT.out ham hmb h6 h7 HRG.out hmi hjb HL.out HR.out)
              obtain ⟨ee, hee⟩ : ∃ x, x = mid + m - i := ⟨_, rfl⟩
              rw [← hee] at HFD
              have eee : (nn : Int) - (i : Int) = (ee : Int) := by have := HNN.out; have := HFD.out.h2; omega
              have hei := HFD.out.h1
              have he2 := HFD.out.h2
              have he3 := HFD.out.h3
              have he4 := HFD.out.h4
              obtain ⟨hm1, hm2, hm3, hm4⟩ := HFD.out.mid ham hmb
              have wee : IntKind.i64.wrap (ee : Int) = (ee : Int) := by rw [IntKind.wrap_i64]; omega
              clear hee HL HR hlt hgh
              have P1 : Hid (PermIn a b d (Rot d i m ee)) := Lib.hid (HFD.out.perm hbd.out)
              have W1 : Hid (Two key (Rot d i m ee) a i mid) := Lib.hid (HFD.out.two1 HT.out hbd.out)
              have W2 : Hid (Two key (Rot d i m ee) mid ee b) := Lib.hid (HFD.out.two2 HT.out hbd.out)
              have W3 : Hid (∀ x y, a ≤ x → x < mid → mid ≤ y → y < b → St.R key (Rot d i m ee)[x]! (Rot d i m ee)[y]!) := Lib.hid (fun x y g1 g2 g3 g4 => HFD.out.cross HT.out hbd.out g1 g2 g3 g4)
              have hrid : Hid (¬ (i < m ∧ m < ee) → Rot d i m ee = d) := Lib.hid (fun h => rot_id (by omega))
              have hsd : Hid ((Rot d i m ee).size = sz) := Lib.hid (by rw [size_Rot]; exact HS.out)
              obtain ⟨d1, hd1⟩ : ∃ x, x = Rot d i m ee := ⟨_, rfl⟩
              have HD1 := Lib.hid hd1
              rw [← hd1] at P1 W1 W2 W3 hrid hsd
              clear hd1 HFD
              go_upto_region 39 with fail
              go_cut [185] from 178 (fun vf wx => ∃ f : Bool, vf = .bool f ∧ Hid (f = true ↔ (i < m ∧ m < ee)) ∧ Aside (SW enc w0 blk off d wx))
              case first =>
                by_cases c4 : i < m
                · have c4z : (i : Int) < (m : Int) := by omega
                  have c4d : decide ((i : Int) < (m : Int)) = true := decide_eq_true c4z
                  have c4n : decide (i < m) = true := decide_eq_true c4
                  by_cases c5 : m < ee
                  · have c5z : (m : Int) < (ee : Int) := by omega
                    have c5d : decide ((m : Int) < (ee : Int)) = true := decide_eq_true c5z
                    have c5n : decide (m < ee) = true := decide_eq_true c5
                    go_wp2_with fail
                    go_meet
                    case rel => exact ⟨true, rfl, Lib.hid ⟨fun _ => ⟨c4, c5⟩, fun _ => rfl⟩, S1⟩
                  · have c5z : ¬ (m : Int) < (ee : Int) := by omega
                    have c5d : decide ((m : Int) < (ee : Int)) = false := decide_eq_false c5z
                    have c5n : decide (m < ee) = false := decide_eq_false c5
                    go_wp2_with fail
                    go_meet
                    case rel => exact ⟨false, rfl, Lib.hid ⟨(fun h => by cases h), (fun h => absurd h.2 c5)⟩, S1⟩
                · have c4z : ¬ (i : Int) < (m : Int) := by omega
                  have c4d : decide ((i : Int) < (m : Int)) = false := decide_eq_false c4z
                  have c4n : decide (i < m) = false := decide_eq_false c4
                  go_wp2_with fail
                  go_meet
                  case rel => exact ⟨false, rfl, Lib.hid ⟨(fun h => by cases h), (fun h => absurd h.1 c4)⟩, S1⟩
              case rest =>
                clear S1
                obtain ⟨f, rfl, HFF, S1⟩ := hcut
                go_upto_if 185 with fail
                go_cut [] from 178 (fun wx => Aside (SW enc w0 blk off d1 wx))
                case first =>
                  cases f with
                  | true =>
                    obtain ⟨c4, c5⟩ := HFF.out.1 rfl
                    go_wp2_with fail
                    refine (CR.out d _ i m ee HS.out S1.out c4 c5 (by omega)).mono ?_
                    rintro e w2 ⟨rfl, h2⟩
                    have S2 : Aside (SW enc w0 blk off d1 w2) := by rw [HD1.out]; exact h2
                    clear h2 S1
                    go_wp2_with fail
                    go_meet
                    case rel => exact S2
                  | false =>
                    have c4 : ¬ (i < m ∧ m < ee) := fun h => by have := HFF.out.2 h; cases this
                    have E1 := Lib.hid (hrid.out c4)
                    clear c4
                    go_wp2_with fail
                    go_meet
                    case rel => rw [E1.out]; exact S1
                case rest =>
                  clear S1 HFF
                  have S1 := hcut
                  clear hcut f
                  go_upto_region 41 with fail
                  go_cut [199] from 178 (fun vf wx => ∃ f : Bool, vf = .bool f ∧ Hid (f = true ↔ (a < i ∧ i < mid)) ∧ Aside (SW enc w0 blk off d1 wx))
                  case first =>
                    by_cases c4 : a < i
                    · have c4z : (a : Int) < (i : Int) := by omega
                      have c4d : decide ((a : Int) < (i : Int)) = true := decide_eq_true c4z
                      have c4n : decide (a < i) = true := decide_eq_true c4
                      by_cases c5 : i < mid
                      · have c5z : (i : Int) < (mid : Int) := by omega
                        have c5d : decide ((i : Int) < (mid : Int)) = true := decide_eq_true c5z
                        have c5n : decide (i < mid) = true := decide_eq_true c5
                        go_wp2_with fail
                        go_meet
                        case rel => exact ⟨true, rfl, Lib.hid ⟨fun _ => ⟨c4, c5⟩, fun _ => rfl⟩, S1⟩
                      · have c5z : ¬ (i : Int) < (mid : Int) := by omega
                        have c5d : decide ((i : Int) < (mid : Int)) = false := decide_eq_false c5z
                        have c5n : decide (i < mid) = false := decide_eq_false c5
                        go_wp2_with fail
                        go_meet
                        case rel => exact ⟨false, rfl, Lib.hid ⟨(fun h => by cases h), (fun h => absurd h.2 c5)⟩, S1⟩
                    · have c4z : ¬ (a : Int) < (i : Int) := by omega
                      have c4d : decide ((a : Int) < (i : Int)) = false := decide_eq_false c4z
                      have c4n : decide (a < i) = false := decide_eq_false c4
                      go_wp2_with fail
                      go_meet
                      case rel => exact ⟨false, rfl, Lib.hid ⟨(fun h => by cases h), (fun h => absurd h.1 c4)⟩, S1⟩
                  case rest =>
                    clear S1
                    obtain ⟨f, rfl, HFF, S1⟩ := hcut
                    go_upto_if 199 with fail
                    go_cut [] from 178 (fun wx => ∃ d2 : Array Nat, Hid (PermIn a mid d1 d2) ∧ Hid (Srt key d2 a mid) ∧ Aside (SW enc w0 blk off d2 wx))
                    case first =>
                      cases f with
                      | true =>
                        obtain ⟨c4, c5⟩ := HFF.out.1 rfl
                        go_wp2_with fail
                        refine (IH.out a i mid d1 _ (by omega) hsd.out c4 c5 (by omega) W1.out S1.out).mono ?_
                        rintro e w2 ⟨rfl, d2, g1, g2, g3⟩
                        have S2 : Aside (SW enc w0 blk off d2 w2) := g3
                        have G1 := Lib.hid g1
                        have G2 := Lib.hid g2
                        clear g1 g2 g3 S1
                        go_wp2_with fail
                        go_meet
                        case rel => exact ⟨d2, G1, G2, S2⟩
                      | false =>
                        have c4 : ¬ (a < i ∧ i < mid) := fun h => by have := HFF.out.2 h; cases this
                        have G := Lib.hid (W1.out.none c4)
                        clear c4
                        go_wp2_with fail
                        go_meet
                        case rel => exact ⟨d1, Lib.hid (permIn_refl _ _ _), G, S1⟩
                    case rest =>
                      clear S1 HFF
                      obtain ⟨d2, PA, SA, S1⟩ := hcut
                      clear f
                      have W22 : Hid (Two key d2 mid ee b) := Lib.hid (W2.out.keep he4 hm4 PA.out (.inl (Nat.le_refl _)))
                      have hs2 : Hid (d2.size = sz) := Lib.hid (by rw [PA.out.1]; exact hsd.out)
                      have FIN : Hid (∀ d3, PermIn mid b d2 d3 → Srt key d3 mid b → PermIn a b d d3 ∧ Srt key d3 a b) := Lib.hid (fun d3 g1 g2 => by
                        have := join (by omega) (by omega) (by rw [hsd.out]; exact hb) PA.out SA.out g1 g2 W3.out
                        exact ⟨permIn_trans _ _ _ a b P1.out this.1, this.2⟩)
                      go_upto_region 43 with fail
                      go_cut [213] from 178 (fun vf wx => ∃ f : Bool, vf = .bool f ∧ Hid (f = true ↔ (mid < ee ∧ ee < b)) ∧ Aside (SW enc w0 blk off d2 wx))
                      case first =>
                        by_cases c4 : mid < ee
                        · have c4z : (mid : Int) < (ee : Int) := by omega
                          have c4d : decide ((mid : Int) < (ee : Int)) = true := decide_eq_true c4z
                          have c4n : decide (mid < ee) = true := decide_eq_true c4
                          by_cases c5 : ee < b
                          · have c5z : (ee : Int) < (b : Int) := by omega
                            have c5d : decide ((ee : Int) < (b : Int)) = true := decide_eq_true c5z
                            have c5n : decide (ee < b) = true := decide_eq_true c5
                            go_wp2_with fail
                            go_meet
                            case rel => exact ⟨true, rfl, Lib.hid ⟨fun _ => ⟨c4, c5⟩, fun _ => rfl⟩, S1⟩
                          · have c5z : ¬ (ee : Int) < (b : Int) := by omega
                            have c5d : decide ((ee : Int) < (b : Int)) = false := decide_eq_false c5z
                            have c5n : decide (ee < b) = false := decide_eq_false c5
                            go_wp2_with fail
                            go_meet
                            case rel => exact ⟨false, rfl, Lib.hid ⟨(fun h => by cases h), (fun h => absurd h.2 c5)⟩, S1⟩
                        · have c4z : ¬ (mid : Int) < (ee : Int) := by omega
                          have c4d : decide ((mid : Int) < (ee : Int)) = false := decide_eq_false c4z
                          have c4n : decide (mid < ee) = false := decide_eq_false c4
                          go_wp2_with fail
                          go_meet
                          case rel => exact ⟨false, rfl, Lib.hid ⟨(fun h => by cases h), (fun h => absurd h.1 c4)⟩, S1⟩
                      case rest =>
                        clear S1
                        obtain ⟨f, rfl, HFF, S1⟩ := hcut
                        cases f with
                        | true =>
                          obtain ⟨c4, c5⟩ := HFF.out.1 rfl
                          go_wp2_with fail
                          refine (IH.out mid ee b d2 _ (by omega) hs2.out c4 c5 hb W22.out S1.out).mono ?_
                          rintro e w2 ⟨rfl, d3, g1, g2, g3⟩
                          have S2 : Aside (SW enc w0 blk off d3 w2) := g3
                          have G := Lib.hid (FIN.out d3 g1 g2)
                          clear g1 g2 g3 S1
                          go_wp2_with fail
                          go_end0
                          exact ⟨rfl, d3, G.out.1, G.out.2, S2.out⟩
                        | false =>
                          have c4 : ¬ (mid < ee ∧ ee < b) := fun h => by have := HFF.out.2 h; cases this
                          have G := Lib.hid (FIN.out d2 (permIn_refl _ _ _) (W22.out.none c4))
                          clear c4
                          go_wp2_with fail
                          go_end0
                          exact ⟨rfl, d2, G.out.1, G.out.2, S1.out⟩
end Go.Proofs.Ytjnehpkkkmicfaa.St
namespace Go.Proofs.Ytjnehpkkkmicfaa.St
open Go.Shelf Go.RowKit Go.Lib Go.Sort Go.Proofs

def MgP (k : Nat) (enc : Nat → List Value) (key : Nat → Nat) (w0 : World) (blk off : Nat) (d : Array Nat) (a b : Nat) (e : Ending) (w' : World) : Prop := e = .returned (.tuple #[]) ∧ ∃ d', PermIn a b d d' ∧ Srt key d' a b ∧ SWK enc k w0 blk off d' w'
set_option maxHeartbeats 16000000 in
set_option maxRecDepth 1000000 in
theorem symMerge_P (k : Nat) (aE : ∀ w, (isAgg 121).run Try.prog w = .ok true w) (zE : ∀ w, (Go.sizeOf 121).run Try.prog w = .ok k w) (enc : Nat → List Value) (key : Nat → Nat) (g : Nat) (cb : Array Value) (blk off cap sz : Nat) (d0 : Array Nat) (w0 : World) (eg : ∀ args w, (callFunc g args).run Try.prog w = .ok (.enter g args) w) (hcmp : 0 < sz → CmpLays Try.prog g cb enc k (cmpK key) blk off d0.size w0) (R : RowK enc k w0 blk off d0) (hs0 : d0.size = sz) (hsz : sz < 1000000000) : ∀ (N a m b : Nat) (d : Array Nat) (w : World), b - a ≤ N → d.size = sz → a < m → m < b → b ≤ sz → Two key d a m b → SWK enc k w0 blk off d w →
    Calls Try.prog 100 #[.slice (some ⟨blk, off, none⟩) sz cap, .int .i64 a, .int .i64 m, .int .i64 b, .func (.func g) #[] cb] w (MgP k enc key w0 blk off d a b) := by
  have mixed : Try.prog.follows Departure.mixedOrders = true := by kernel_rfl
  have HC : Aside _ := hcmp
  clear hcmp
  intro N
  induction N with
  | zero => intro a m b d w h1 _ h2 h3; omega
  | succ N ih =>
    intro a m b d w hN hs ham hmb hb T S
    have IH := Lib.hid ih
    clear ih
    have S0 : Aside (SWK enc k w0 blk off d w) := S
    have HT := Lib.hid T
    have HS := Lib.hid hs
    clear S T hs
    have hbd : Hid (b ≤ d.size) := Lib.hid (by rw [HS.out]; exact hb)
    obtain ⟨q1, hq1⟩ : ∃ x, x = m - a := ⟨_, rfl⟩
    obtain ⟨q2, hq2⟩ : ∃ x, x = b - m := ⟨_, rfl⟩
    have z1 : (m : Int) - (a : Int) = (q1 : Int) := by omega
    have z2 : (b : Int) - (m : Int) = (q2 : Int) := by omega
    have z3 : IntKind.i64.wrap (q1 : Int) = (q1 : Int) := by rw [IntKind.wrap_i64]; omega
    have z4 : IntKind.i64.wrap (q2 : Int) = (q2 : Int) := by rw [IntKind.wrap_i64]; omega
    have HQ1 := Lib.hid hq1
    have HQ2 := Lib.hid hq2
    clear hq1 hq2
    by_cases c1 : q1 = 1
    · have hm : m = a + 1 := by have := HQ1.out; omega
      have HM := Lib.hid hm
      clear hm
      have t1 : ((q1 : Int) == 1) = true := by rw [beq_iff_eq]; omega
      go_enter Try.func100, Try.ntmps100
      go_wp2_with fail
      go_loopg [10, 11] sz (fun gh vi vj wr => ∃ (i j : Nat), vi = .int .i64 i ∧ vj = .int .i64 j ∧ m ≤ i ∧ i ≤ j ∧ j ≤ b ∧ j - i ≤ gh ∧ Hid (∀ t, m ≤ t → t < i → key d[t]! < key d[a]!) ∧ Hid (∀ t, j ≤ t → t < b → ¬ key d[t]! < key d[a]!) ∧ Aside (SWK enc k w0 blk off d wr))
      case atStart => exact ⟨m, b, rfl, rfl, Nat.le_refl _, by omega, Nat.le_refl _, by omega, Lib.hid (fun t _ _ => by omega), Lib.hid (fun t _ _ => by omega), S0⟩
      case round =>
        clear S0
        obtain ⟨i, j, rfl, rfl, hmi, hij, hjb, hgh, HL, HR, S1⟩ := hrel
        by_cases hlt : i < j
        · obtain ⟨h, hh⟩ : ∃ h, h = (i + j) / 2 := ⟨_, rfl⟩
          have e1 : ((i : Int) + (j : Int)) / 2 = (h : Int) := by omega
          have e2 : ((i : Int) + (j : Int)).tdiv 2 = (h : Int) := by rw [Int.tdiv_eq_ediv_of_nonneg (by omega)]; exact e1
          have hb1 : i ≤ h := by omega
          have hb2 : h < j := by omega
          have hz : (i : Int) < (j : Int) := by omega
          clear hh
          by_cases hv : cmpK key d[h]! d[a]! < 0
          · have HL2 : Hid (∀ t, m ≤ t → t < h + 1 → key d[t]! < key d[a]!) := Lib.hid (fun t g1 g2 => by have := HT.out.right.le g1 (show t ≤ h by omega) (by omega); have := cmp_lt.1 hv; omega)
            have p0a100 : (0 : Int) ≤ (h : Int) := by omega
            have p1a100 : (h : Int) < (sz : Int) := by omega
            have p0b100 : (0 : Int) ≤ (a : Int) := by omega
            have p1b100 : (a : Int) < (sz : Int) := by omega
            have hsz0 : d.size = sz := HS.out
            obtain ⟨x100, hx100⟩ : ∃ x, x = d[h]! := ⟨_, rfl⟩
            obtain ⟨y100, hy100⟩ : ∃ x, x = d[a]! := ⟨_, rfl⟩
            have la100 := S1.out.ld R (by omega) Try.prog h (by omega)
            have lb100 := S1.out.ld R (by omega) Try.prog a (by omega)
            rw [← hx100] at la100
            rw [← hy100] at lb100
            have hc100 := S1.out.cmp (HC.out (by omega)) (by omega) x100 y100
            have hd100 : decide (cmpK key x100 y100 < 0) = true := by rw [hx100, hy100]; exact decide_eq_true hv
            generalize cmpK key x100 y100 = cv100 at hc100 hd100
            clear hx100 hy100 hsz0
            have na100 : (enc x100).length = k := R.hk _
            have nb100 : (enc y100).length = k := R.hk _
            go_wp2_with fail
            go_quiet_grown (first | (go_at_fn g; refine Calls.grown_of (hc100 _ _)))
            have S2 : Aside (SWK enc k w0 blk off d (grow (wr.drewN nq) osq)) := S1.out.grown nq osq
            clear la100 lb100 hc100 S1
            generalize grow (wr.drewN nq) osq = w2 at S2 ⊢
            clear nq osq
            go_wp2_with fail
            go_roundg (j - (h + 1))
            case measure => omega
            case rel => exact ⟨h + 1, j, by go_num, rfl, by omega, by omega, hjb, Nat.le_refl _, HL2, HR, S2⟩
          · have HR2 : Hid (∀ t, h ≤ t → t < b → ¬ key d[t]! < key d[a]!) := Lib.hid (fun t g1 g2 => by have := HT.out.right.le (show m ≤ h by omega) g1 g2; have : ¬ key d[h]! < key d[a]! := fun q => hv (cmp_lt.2 q); omega)
            have p0a101 : (0 : Int) ≤ (h : Int) := by omega
            have p1a101 : (h : Int) < (sz : Int) := by omega
            have p0b101 : (0 : Int) ≤ (a : Int) := by omega
            have p1b101 : (a : Int) < (sz : Int) := by omega
            have hsz0 : d.size = sz := HS.out
            obtain ⟨x101, hx101⟩ : ∃ x, x = d[h]! := ⟨_, rfl⟩
            obtain ⟨y101, hy101⟩ : ∃ x, x = d[a]! := ⟨_, rfl⟩
            have la101 := S1.out.ld R (by omega) Try.prog h (by omega)
            have lb101 := S1.out.ld R (by omega) Try.prog a (by omega)
            rw [← hx101] at la101
            rw [← hy101] at lb101
            have hc101 := S1.out.cmp (HC.out (by omega)) (by omega) x101 y101
            have hd101 : decide (cmpK key x101 y101 < 0) = false := by rw [hx101, hy101]; exact decide_eq_false hv
            generalize cmpK key x101 y101 = cv101 at hc101 hd101
            clear hx101 hy101 hsz0
            have na101 : (enc x101).length = k := R.hk _
            have nb101 : (enc y101).length = k := R.hk _
            go_wp2_with fail
            go_quiet_grown (first | (go_at_fn g; refine Calls.grown_of (hc101 _ _)))
            have S2 : Aside (SWK enc k w0 blk off d (grow (wr.drewN nq) osq)) := S1.out.grown nq osq
            clear la101 lb101 hc101 S1
            generalize grow (wr.drewN nq) osq = w2 at S2 ⊢
            clear nq osq
            go_wp2_with fail
            go_roundg (h - i)
            case measure => omega
            case rel => exact ⟨i, h, rfl, rfl, hmi, by omega, by omega, Nat.le_refl _, HL, HR2, S2⟩
        · obtain rfl : i = j := by omega
          have iz : ¬ (i : Int) < (i : Int) := by omega
          obtain ⟨i1, rfl⟩ : ∃ i1, i = i1 + 1 := ⟨i - 1, by omega⟩
          have HF : Hid (PermIn a b d (Rot d a m (i1 + 1)) ∧ Srt key (Rot d a m (i1 + 1)) a b) := Lib.hid (by
            have hm := HM.out
            subst hm
            exact ⟨permIn_mono _ _ a (i1 + 1) a b (Nat.le_refl _) hjb hbd.out (rot_perm (by omega) hmi (by have := hbd.out; omega)), one_left HT.out hbd.out hmi hjb HL.out HR.out⟩)
          have ei : ((i1 + 1 : Nat) : Int) - 1 = (i1 : Int) := by omega
          have wi : IntKind.i64.wrap (i1 : Int) = (i1 : Int) := by rw [IntKind.wrap_i64]; omega
          go_wp2_with fail
          go_loopg [13] sz (fun gh vk wr => ∃ (kk : Nat) (dk : Array Nat), vk = .int .i64 kk ∧ a ≤ kk ∧ kk ≤ i1 ∧ i1 - kk ≤ gh ∧ dk.size = sz ∧ Hid (dk = Rot d a m (kk + 1)) ∧ Aside (SWK enc k w0 blk off dk wr))
          case atStart => exact ⟨a, d, rfl, Nat.le_refl _, by have := HM.out; omega, by omega, HS.out, Lib.hid (rot_id (.inr HM.out)).symm, S1⟩
          case round =>
            clear S1
            obtain ⟨kk, dk, rfl, hak, hki, hgk, hsk, HD, S1⟩ := hrel
            by_cases hlk : kk < i1
            · have kz : (kk : Int) < (i1 : Int) := by omega
              obtain ⟨q, hq⟩ : ∃ q, q = kk + 1 := ⟨_, rfl⟩
              have eq : (kk : Int) + 1 = (q : Int) := by omega
              have wq : IntKind.i64.wrap (q : Int) = (q : Int) := by rw [IntKind.wrap_i64]; omega
              have HN : Hid (swp dk kk q = Rot d a m (q + 1)) := Lib.hid (by rw [HD.out, hq, HM.out]; exact rot_up hak (by rw [HS.out]; omega))
              have hqz : q ≤ i1 ∧ q < sz ∧ a ≤ q ∧ i1 - q < i1 - kk := by omega
              clear hq
              go_wp2_with fail
              have p0a102 : (0 : Int) ≤ (kk : Int) := by omega
              have p1a102 : (kk : Int) < (sz : Int) := by omega
              have p0b102 : (0 : Int) ≤ (q : Int) := by omega
              have p1b102 : (q : Int) < (sz : Int) := by omega
              have S2 : Aside (SWK enc k w0 blk off (swp dk kk q) ((wr.drew.setCells blk (off + kk * k) (enc dk[q]!)).setCells blk (off + q * k) (enc dk[kk]!))) := S1.out.swapped R kk q (by omega) (by omega)
              have la102 := S1.out.ld1 R (by omega) Try.prog kk (by omega)
              have lb102 := S1.out.ld1 R (by omega) Try.prog q (by omega)
              have sa102 := S1.out.st1 R (by omega) Try.prog kk (by omega) dk[q]!
              have sb102 := S1.out.st2 R (by omega) Try.prog kk q (by omega) (by omega) dk[q]! dk[kk]!
              have na102 : (enc dk[kk]!).length = k := R.hk _
              have nb102 : (enc dk[q]!).length = k := R.hk _
              generalize enc dk[kk]! = cI102 at S2 la102 sb102 na102
              generalize enc dk[q]! = cJ102 at S2 lb102 sa102 sb102 nb102
              clear S1
              go_wp2_with fail
              go_big_region_o
              clear la102 lb102 sa102 sb102
              generalize (wr.drew.setCells blk (off + kk * k) cJ102).setCells blk (off + q * k) cI102 = w2 at S2 ⊢
              go_wp2_with fail
              go_roundg (i1 - q)
              case measure => omega
              case rel => exact ⟨q, swp dk kk q, by first | rfl | go_num, hqz.2.2.1, hqz.1, Nat.le_refl _, by rw [size_swp]; exact hsk, HN, S2⟩
            · obtain rfl : kk = i1 := by omega
              have kz : ¬ (kk : Int) < (kk : Int) := by omega
              go_wp2_with fail
              go_end0
              exact ⟨rfl, dk, by rw [HD.out]; exact HF.out.1, by rw [HD.out]; exact HF.out.2, S1.out⟩
    · have t1 : ((q1 : Int) == 1) = false := by rw [beq_eq_false_iff_ne]; omega
      by_cases c2 : q2 = 1
      · have hm : b = m + 1 := by have := HQ2.out; omega
        have HM := Lib.hid hm
        clear hm
        have HT2 : Hid (Two key d a m (m + 1)) := Lib.hid (by have := HT.out; rw [HM.out] at this; exact this)
        have t2 : ((q2 : Int) == 1) = true := by rw [beq_iff_eq]; omega
        go_enter Try.func100, Try.ntmps100
        go_wp2_with fail
        go_loopg [14, 15] sz (fun gh vi vj wr => ∃ (i j : Nat), vi = .int .i64 i ∧ vj = .int .i64 j ∧ a ≤ i ∧ i ≤ j ∧ j ≤ m ∧ j - i ≤ gh ∧ Hid (∀ t, a ≤ t → t < i → ¬ key d[m]! < key d[t]!) ∧ Hid (∀ t, j ≤ t → t < m → key d[m]! < key d[t]!) ∧ Aside (SWK enc k w0 blk off d wr))
        case atStart => exact ⟨a, m, rfl, rfl, Nat.le_refl _, by omega, Nat.le_refl _, by omega, Lib.hid (fun t _ _ => by omega), Lib.hid (fun t _ _ => by omega), S0⟩
        case round =>
          clear S0
          obtain ⟨i, j, rfl, rfl, hmi, hij, hjb, hgh, HL, HR, S1⟩ := hrel
          by_cases hlt : i < j
          · obtain ⟨h, hh⟩ : ∃ h, h = (i + j) / 2 := ⟨_, rfl⟩
            have e1 : ((i : Int) + (j : Int)) / 2 = (h : Int) := by omega
            have e2 : ((i : Int) + (j : Int)).tdiv 2 = (h : Int) := by rw [Int.tdiv_eq_ediv_of_nonneg (by omega)]; exact e1
            have hb1 : i ≤ h := by omega
            have hb2 : h < j := by omega
            have hz : (i : Int) < (j : Int) := by omega
            clear hh
            by_cases hv : cmpK key d[m]! d[h]! < 0
            · have HR2 : Hid (∀ t, h ≤ t → t < m → key d[m]! < key d[t]!) := Lib.hid (fun t g1 g2 => by have := HT.out.left.le (show a ≤ h by omega) g1 g2; have := cmp_lt.1 hv; omega)
              have p0a103 : (0 : Int) ≤ (m : Int) := by omega
              have p1a103 : (m : Int) < (sz : Int) := by omega
              have p0b103 : (0 : Int) ≤ (h : Int) := by omega
              have p1b103 : (h : Int) < (sz : Int) := by omega
              have hsz0 : d.size = sz := HS.out
              obtain ⟨x103, hx103⟩ : ∃ x, x = d[m]! := ⟨_, rfl⟩
              obtain ⟨y103, hy103⟩ : ∃ x, x = d[h]! := ⟨_, rfl⟩
              have la103 := S1.out.ld R (by omega) Try.prog m (by omega)
              have lb103 := S1.out.ld R (by omega) Try.prog h (by omega)
              rw [← hx103] at la103
              rw [← hy103] at lb103
              have hc103 := S1.out.cmp (HC.out (by omega)) (by omega) x103 y103
              have hd103 : decide (cmpK key x103 y103 < 0) = true := by rw [hx103, hy103]; exact decide_eq_true hv
              generalize cmpK key x103 y103 = cv103 at hc103 hd103
              clear hx103 hy103 hsz0
              have na103 : (enc x103).length = k := R.hk _
              have nb103 : (enc y103).length = k := R.hk _
              go_wp2_with fail
              go_quiet_grown (first | (go_at_fn g; refine Calls.grown_of (hc103 _ _)))
              have S2 : Aside (SWK enc k w0 blk off d (grow (wr.drewN nq) osq)) := S1.out.grown nq osq
              clear la103 lb103 hc103 S1
              generalize grow (wr.drewN nq) osq = w2 at S2 ⊢
              clear nq osq
              go_wp2_with fail
              go_roundg (h - i)
              case measure => omega
              case rel => exact ⟨i, h, rfl, rfl, hmi, by omega, by omega, Nat.le_refl _, HL, HR2, S2⟩
            · have HL2 : Hid (∀ t, a ≤ t → t < h + 1 → ¬ key d[m]! < key d[t]!) := Lib.hid (fun t g1 g2 => by have := HT.out.left.le g1 (show t ≤ h by omega) (by omega); have : ¬ key d[m]! < key d[h]! := fun q => hv (cmp_lt.2 q); omega)
              have p0a104 : (0 : Int) ≤ (m : Int) := by omega
              have p1a104 : (m : Int) < (sz : Int) := by omega
              have p0b104 : (0 : Int) ≤ (h : Int) := by omega
              have p1b104 : (h : Int) < (sz : Int) := by omega
              have hsz0 : d.size = sz := HS.out
              obtain ⟨x104, hx104⟩ : ∃ x, x = d[m]! := ⟨_, rfl⟩
              obtain ⟨y104, hy104⟩ : ∃ x, x = d[h]! := ⟨_, rfl⟩
              have la104 := S1.out.ld R (by omega) Try.prog m (by omega)
              have lb104 := S1.out.ld R (by omega) Try.prog h (by omega)
              rw [← hx104] at la104
              rw [← hy104] at lb104
              have hc104 := S1.out.cmp (HC.out (by omega)) (by omega) x104 y104
              have hd104 : decide (cmpK key x104 y104 < 0) = false := by rw [hx104, hy104]; exact decide_eq_false hv
              generalize cmpK key x104 y104 = cv104 at hc104 hd104
              clear hx104 hy104 hsz0
              have na104 : (enc x104).length = k := R.hk _
              have nb104 : (enc y104).length = k := R.hk _
              go_wp2_with fail
              go_quiet_grown (first | (go_at_fn g; refine Calls.grown_of (hc104 _ _)))
              have S2 : Aside (SWK enc k w0 blk off d (grow (wr.drewN nq) osq)) := S1.out.grown nq osq
              clear la104 lb104 hc104 S1
              generalize grow (wr.drewN nq) osq = w2 at S2 ⊢
              clear nq osq
              go_wp2_with fail
              go_roundg (j - (h + 1))
              case measure => omega
              case rel => exact ⟨h + 1, j, by go_num, rfl, by omega, by omega, hjb, Nat.le_refl _, HL2, HR, S2⟩
          · obtain rfl : i = j := by omega
            have iz : ¬ (i : Int) < (i : Int) := by omega
            have HF : Hid (PermIn a b d (Rot d i m (m + 1)) ∧ Srt key (Rot d i m (m + 1)) a b) := Lib.hid (by
              have h1 := hbd.out
              rw [HM.out] at h1 ⊢
              exact ⟨permIn_mono _ _ i (m + 1) a (m + 1) hmi (Nat.le_refl _) h1 (rot_perm hjb (by omega) h1), one_right HT2.out h1 hmi hjb HL.out HR.out⟩)
            go_wp2_with fail
            go_loopg [17] sz (fun gh vk wr => ∃ (kk : Nat) (dk : Array Nat), vk = .int .i64 kk ∧ i ≤ kk ∧ kk ≤ m ∧ kk - i ≤ gh ∧ dk.size = sz ∧ Hid (dk = Rot d kk m (m + 1)) ∧ Aside (SWK enc k w0 blk off dk wr))
            case atStart => exact ⟨m, d, rfl, hjb, Nat.le_refl _, by omega, HS.out, Lib.hid (rot_id (.inl rfl)).symm, S1⟩
            case round =>
              clear S1
              obtain ⟨kk, dk, rfl, hak, hki, hgk, hsk, HD, S1⟩ := hrel
              by_cases hlk : i < kk
              · have kz : (i : Int) < (kk : Int) := by omega
                obtain ⟨q, hq⟩ : ∃ q, q = kk - 1 := ⟨_, rfl⟩
                have eq : (kk : Int) - 1 = (q : Int) := by omega
                have wq : IntKind.i64.wrap (q : Int) = (q : Int) := by rw [IntKind.wrap_i64]; omega
                have HN : Hid (swp dk kk q = Rot d q m (m + 1)) := Lib.hid (by rw [HD.out, hq]; exact rot_down (by omega) hki (by rw [HS.out]; omega))
                have hqz : i ≤ q ∧ q < sz ∧ q ≤ m ∧ q - i < kk - i := by omega
                clear hq
                go_wp2_with fail
                have p0a105 : (0 : Int) ≤ (kk : Int) := by omega
                have p1a105 : (kk : Int) < (sz : Int) := by omega
                have p0b105 : (0 : Int) ≤ (q : Int) := by omega
                have p1b105 : (q : Int) < (sz : Int) := by omega
                have S2 : Aside (SWK enc k w0 blk off (swp dk kk q) ((wr.drew.setCells blk (off + kk * k) (enc dk[q]!)).setCells blk (off + q * k) (enc dk[kk]!))) := S1.out.swapped R kk q (by omega) (by omega)
                have la105 := S1.out.ld1 R (by omega) Try.prog kk (by omega)
                have lb105 := S1.out.ld1 R (by omega) Try.prog q (by omega)
                have sa105 := S1.out.st1 R (by omega) Try.prog kk (by omega) dk[q]!
                have sb105 := S1.out.st2 R (by omega) Try.prog kk q (by omega) (by omega) dk[q]! dk[kk]!
                have na105 : (enc dk[kk]!).length = k := R.hk _
                have nb105 : (enc dk[q]!).length = k := R.hk _
                generalize enc dk[kk]! = cI105 at S2 la105 sb105 na105
                generalize enc dk[q]! = cJ105 at S2 lb105 sa105 sb105 nb105
                clear S1
                go_wp2_with fail
                go_big_region_o
                clear la105 lb105 sa105 sb105
                generalize (wr.drew.setCells blk (off + kk * k) cJ105).setCells blk (off + q * k) cI105 = w2 at S2 ⊢
                go_wp2_with fail
                go_roundg (q - i)
                case measure => omega
                case rel => exact ⟨q, swp dk kk q, by first | rfl | go_num, hqz.1, hqz.2.2.1, Nat.le_refl _, by rw [size_swp]; exact hsk, HN, S2⟩
              · obtain rfl : i = kk := by omega
                have kz : ¬ (i : Int) < (i : Int) := by omega
                go_wp2_with fail
                go_end0
                exact ⟨rfl, dk, by rw [HD.out]; exact HF.out.1, by rw [HD.out]; exact HF.out.2, S1.out⟩
      · have t2 : ((q2 : Int) == 1) = false := by rw [beq_eq_false_iff_ne]; omega
        have CR : Hid (∀ (dk : Array Nat) (W : World) (a m b : Nat), dk.size = sz → SWK enc k w0 blk off dk W → a < m → m < b → b ≤ sz → Calls Try.prog 102 #[.slice (some ⟨blk, off, none⟩) sz cap, .int .i64 a, .int .i64 m, .int .i64 b, .func (.func g) #[] cb] W fun e w' => e = .returned (.tuple #[]) ∧ SWK enc k w0 blk off (Rot dk a m b) w') := Lib.hid (fun dk W a m b h1 h2 h3 h4 h5 => rotate_P k aE zE enc g cb blk off cap sz d0 dk w0 W R hs0 h1 hsz h2 a m b h3 h4 h5)
        obtain ⟨mid, hmid⟩ : ∃ x, x = (a + b) / 2 := ⟨_, rfl⟩
        have h6 : 2 * mid ≤ a + b := by omega
        have h7 : a + b < 2 * mid + 2 := by omega
        have em1 : ((a : Int) + (b : Int)) / 2 = (mid : Int) := by omega
        have em2 : ((a : Int) + (b : Int)).tdiv 2 = (mid : Int) := by rw [Int.tdiv_eq_ediv_of_nonneg (by omega)]; exact em1
        clear hmid
        obtain ⟨nn, hnn⟩ : ∃ x, x = mid + m := ⟨_, rfl⟩
        have en : (mid : Int) + (m : Int) = (nn : Int) := by omega
        have wn : IntKind.i64.wrap (nn : Int) = (nn : Int) := by rw [IntKind.wrap_i64]; omega
        obtain ⟨pp, hpp⟩ : ∃ x, x = nn - 1 := ⟨_, rfl⟩
        have epp : (nn : Int) - 1 = (pp : Int) := by omega
        have wpp : IntKind.i64.wrap (pp : Int) = (pp : Int) := by rw [IntKind.wrap_i64]; omega
        have HNN := Lib.hid hnn
        have HPP : Hid (pp = mid + m - 1) := Lib.hid (by omega)
        clear hnn hpp
        go_enter Try.func100, Try.ntmps100
        go_upto_if 140 with fail
        go_cut [20, 21] from 135 (fun v20 v21 wx => ∃ s0 r0 : Nat, v20 = .int .i64 s0 ∧ v21 = .int .i64 r0 ∧ Rng a m b mid s0 r0 ∧ s0 ≤ r0 ∧ Aside (SWK enc k w0 blk off d wx))
        case first =>
          by_cases c3 : mid < m
          · have c3z : (mid : Int) < (m : Int) := by omega
            obtain ⟨s0, hs1⟩ : ∃ x, x = nn - b := ⟨_, rfl⟩
            have hs3 : s0 + b = mid + m ∧ s0 ≤ mid ∧ b ≤ nn := by have := HNN.out; omega
            have es : (nn : Int) - (b : Int) = (s0 : Int) := by omega
            have ws : IntKind.i64.wrap (s0 : Int) = (s0 : Int) := by rw [IntKind.wrap_i64]; omega
            clear hs1
            go_wp2_with fail
            go_meet
            case rel => exact ⟨s0, mid, rfl, rfl, .inr ⟨hs3.1, rfl, c3⟩, hs3.2.1, S0⟩
          · have c3z : ¬ (mid : Int) < (m : Int) := by omega
            go_wp2_with fail
            go_meet
            case rel => exact ⟨a, m, rfl, rfl, .inl ⟨rfl, rfl, by omega⟩, by omega, S0⟩
        case rest =>
          clear S0
          obtain ⟨s0, r0, rfl, rfl, hR, hsr, S0⟩ := hcut
          have HRG := Lib.hid hR
          have hrb : r0 ≤ m := by unfold Rng at hR; omega
          have has : a ≤ s0 := by unfold Rng at hR; omega
          have hnb : ∀ c, s0 ≤ c → c < r0 → c ≤ pp ∧ pp - c < sz := by have := HPP.out; unfold Rng at hR; intro c _ _; omega
          have HNB := Lib.hid hnb
          clear hR hnb
          go_wp2_with fail
          go_loopg [20, 21] sz (fun gh vi vj wr => ∃ (i j : Nat), vi = .int .i64 i ∧ vj = .int .i64 j ∧ s0 ≤ i ∧ i ≤ j ∧ j ≤ r0 ∧ j - i ≤ gh ∧ Hid (∀ c, s0 ≤ c → c < i → ¬ key d[mid + m - 1 - c]! < key d[c]!) ∧ Hid (∀ c, j ≤ c → c < r0 → key d[mid + m - 1 - c]! < key d[c]!) ∧ Aside (SWK enc k w0 blk off d wr))
          case atStart => exact ⟨s0, r0, rfl, rfl, Nat.le_refl _, hsr, Nat.le_refl _, by omega, Lib.hid (fun t _ _ => by omega), Lib.hid (fun t _ _ => by omega), S0⟩
          case round =>
            clear S0
            obtain ⟨i, j, rfl, rfl, hmi, hij, hjb, hgh, HL, HR, S1⟩ := hrel
            by_cases hlt : i < j
            · obtain ⟨h, hh⟩ : ∃ h, h = (i + j) / 2 := ⟨_, rfl⟩
              have e1 : ((i : Int) + (j : Int)) / 2 = (h : Int) := by omega
              have e2 : ((i : Int) + (j : Int)).tdiv 2 = (h : Int) := by rw [Int.tdiv_eq_ediv_of_nonneg (by omega)]; exact e1
              have hb1 : i ≤ h := by omega
              have hb2 : h < j := by omega
              have hz : (i : Int) < (j : Int) := by omega
              clear hh
              obtain ⟨q, hq⟩ : ∃ x, x = pp - h := ⟨_, rfl⟩
              have hq0 := HNB.out h (by omega) (by omega)
              have eq : (pp : Int) - (h : Int) = (q : Int) := by omega
              have wq : IntKind.i64.wrap (q : Int) = (q : Int) := by rw [IntKind.wrap_i64]; omega
              have HQ : Hid (q = mid + m - 1 - h) := Lib.hid (by rw [hq, HPP.out])
              have hqz : q < sz := by omega
              clear hq hq0
              by_cases hv : cmpK key d[q]! d[h]! < 0
              · have HR2 : Hid (∀ c, h ≤ c → c < r0 → key d[mid + m - 1 - c]! < key d[c]!) := Lib.hid (fun c g1 g2 => probe_hi HT.out ham hmb h6 h7 HRG.out (show s0 ≤ h by omega) g1 g2 (by rw [← HQ.out]; exact cmp_lt.1 hv))
                have p0a106 : (0 : Int) ≤ (q : Int) := by omega
                have p1a106 : (q : Int) < (sz : Int) := by omega
                have p0b106 : (0 : Int) ≤ (h : Int) := by omega
                have p1b106 : (h : Int) < (sz : Int) := by omega
                have hsz0 : d.size = sz := HS.out
                obtain ⟨x106, hx106⟩ : ∃ x, x = d[q]! := ⟨_, rfl⟩
                obtain ⟨y106, hy106⟩ : ∃ x, x = d[h]! := ⟨_, rfl⟩
                have la106 := S1.out.ld R (by omega) Try.prog q (by omega)
                have lb106 := S1.out.ld R (by omega) Try.prog h (by omega)
                rw [← hx106] at la106
                rw [← hy106] at lb106
                have hc106 := S1.out.cmp (HC.out (by omega)) (by omega) x106 y106
                have hd106 : decide (cmpK key x106 y106 < 0) = true := by rw [hx106, hy106]; exact decide_eq_true hv
                generalize cmpK key x106 y106 = cv106 at hc106 hd106
                clear hx106 hy106 hsz0
                have na106 : (enc x106).length = k := R.hk _
                have nb106 : (enc y106).length = k := R.hk _
                go_wp2_with fail
                go_quiet_grown (first | (go_at_fn g; refine Calls.grown_of (hc106 _ _)))
                have S2 : Aside (SWK enc k w0 blk off d (grow (wr.drewN nq) osq)) := S1.out.grown nq osq
                clear la106 lb106 hc106 S1
                generalize grow (wr.drewN nq) osq = w2 at S2 ⊢
                clear nq osq
                go_wp2_with fail
                go_roundg (h - i)
                case measure => omega
                case rel => exact ⟨i, h, rfl, rfl, hmi, by omega, by omega, Nat.le_refl _, HL, HR2, S2⟩
              · have HL2 : Hid (∀ c, s0 ≤ c → c < h + 1 → ¬ key d[mid + m - 1 - c]! < key d[c]!) := Lib.hid (fun c g1 g2 => probe_lo HT.out ham hmb h6 h7 HRG.out g1 (show c ≤ h by omega) (show h < r0 by omega) (by rw [← HQ.out]; exact fun q => hv (cmp_lt.2 q)))
                have p0a107 : (0 : Int) ≤ (q : Int) := by omega
                have p1a107 : (q : Int) < (sz : Int) := by omega
                have p0b107 : (0 : Int) ≤ (h : Int) := by omega
                have p1b107 : (h : Int) < (sz : Int) := by omega
                have hsz0 : d.size = sz := HS.out
                obtain ⟨x107, hx107⟩ : ∃ x, x = d[q]! := ⟨_, rfl⟩
                obtain ⟨y107, hy107⟩ : ∃ x, x = d[h]! := ⟨_, rfl⟩
                have la107 := S1.out.ld R (by omega) Try.prog q (by omega)
                have lb107 := S1.out.ld R (by omega) Try.prog h (by omega)
                rw [← hx107] at la107
                rw [← hy107] at lb107
                have hc107 := S1.out.cmp (HC.out (by omega)) (by omega) x107 y107
                have hd107 : decide (cmpK key x107 y107 < 0) = false := by rw [hx107, hy107]; exact decide_eq_false hv
                generalize cmpK key x107 y107 = cv107 at hc107 hd107
                clear hx107 hy107 hsz0
                have na107 : (enc x107).length = k := R.hk _
                have nb107 : (enc y107).length = k := R.hk _
                go_wp2_with fail
                go_quiet_grown (first | (go_at_fn g; refine Calls.grown_of (hc107 _ _)))
                have S2 : Aside (SWK enc k w0 blk off d (grow (wr.drewN nq) osq)) := S1.out.grown nq osq
                clear la107 lb107 hc107 S1
                generalize grow (wr.drewN nq) osq = w2 at S2 ⊢
                clear nq osq
                go_wp2_with fail
                go_roundg (j - (h + 1))
                case measure => omega
                case rel => exact ⟨h + 1, j, by go_num, rfl, by omega, by omega, hjb, Nat.le_refl _, HL2, HR, S2⟩
            · obtain rfl : i = j := by omega
              have iz : ¬ (i : Int) < (i : Int) := by omega
              have HFD : Hid (Found key d a m b i (mid + m - i) mid) := Lib.hid (found_of HT.out ham hmb h6 h7 HRG.out hmi hjb HL.out HR.out)
              obtain ⟨ee, hee⟩ : ∃ x, x = mid + m - i := ⟨_, rfl⟩
              rw [← hee] at HFD
              have eee : (nn : Int) - (i : Int) = (ee : Int) := by have := HNN.out; have := HFD.out.h2; omega
              have hei := HFD.out.h1
              have he2 := HFD.out.h2
              have he3 := HFD.out.h3
              have he4 := HFD.out.h4
              obtain ⟨hm1, hm2, hm3, hm4⟩ := HFD.out.mid ham hmb
              have wee : IntKind.i64.wrap (ee : Int) = (ee : Int) := by rw [IntKind.wrap_i64]; omega
              clear hee HL HR hlt hgh
              have P1 : Hid (PermIn a b d (Rot d i m ee)) := Lib.hid (HFD.out.perm hbd.out)
              have W1 : Hid (Two key (Rot d i m ee) a i mid) := Lib.hid (HFD.out.two1 HT.out hbd.out)
              have W2 : Hid (Two key (Rot d i m ee) mid ee b) := Lib.hid (HFD.out.two2 HT.out hbd.out)
              have W3 : Hid (∀ x y, a ≤ x → x < mid → mid ≤ y → y < b → St.R key (Rot d i m ee)[x]! (Rot d i m ee)[y]!) := Lib.hid (fun x y g1 g2 g3 g4 => HFD.out.cross HT.out hbd.out g1 g2 g3 g4)
              have hrid : Hid (¬ (i < m ∧ m < ee) → Rot d i m ee = d) := Lib.hid (fun h => rot_id (by omega))
              have hsd : Hid ((Rot d i m ee).size = sz) := Lib.hid (by rw [size_Rot]; exact HS.out)
              obtain ⟨d1, hd1⟩ : ∃ x, x = Rot d i m ee := ⟨_, rfl⟩
              have HD1 := Lib.hid hd1
              rw [← hd1] at P1 W1 W2 W3 hrid hsd
              clear hd1 HFD
              go_upto_region 39 with fail
              go_cut [185] from 178 (fun vf wx => ∃ f : Bool, vf = .bool f ∧ Hid (f = true ↔ (i < m ∧ m < ee)) ∧ Aside (SWK enc k w0 blk off d wx))
              case first =>
                by_cases c4 : i < m
                · have c4z : (i : Int) < (m : Int) := by omega
                  have c4d : decide ((i : Int) < (m : Int)) = true := decide_eq_true c4z
                  have c4n : decide (i < m) = true := decide_eq_true c4
                  by_cases c5 : m < ee
                  · have c5z : (m : Int) < (ee : Int) := by omega
                    have c5d : decide ((m : Int) < (ee : Int)) = true := decide_eq_true c5z
                    have c5n : decide (m < ee) = true := decide_eq_true c5
                    go_wp2_with fail
                    go_meet
                    case rel => exact ⟨true, rfl, Lib.hid ⟨fun _ => ⟨c4, c5⟩, fun _ => rfl⟩, S1⟩
                  · have c5z : ¬ (m : Int) < (ee : Int) := by omega
                    have c5d : decide ((m : Int) < (ee : Int)) = false := decide_eq_false c5z
                    have c5n : decide (m < ee) = false := decide_eq_false c5
                    go_wp2_with fail
                    go_meet
                    case rel => exact ⟨false, rfl, Lib.hid ⟨(fun h => by cases h), (fun h => absurd h.2 c5)⟩, S1⟩
                · have c4z : ¬ (i : Int) < (m : Int) := by omega
                  have c4d : decide ((i : Int) < (m : Int)) = false := decide_eq_false c4z
                  have c4n : decide (i < m) = false := decide_eq_false c4
                  go_wp2_with fail
                  go_meet
                  case rel => exact ⟨false, rfl, Lib.hid ⟨(fun h => by cases h), (fun h => absurd h.1 c4)⟩, S1⟩
              case rest =>
                clear S1
                obtain ⟨f, rfl, HFF, S1⟩ := hcut
                go_upto_if 185 with fail
                go_cut [] from 178 (fun wx => Aside (SWK enc k w0 blk off d1 wx))
                case first =>
                  cases f with
                  | true =>
                    obtain ⟨c4, c5⟩ := HFF.out.1 rfl
                    go_wp2_with fail
                    refine (CR.out d _ i m ee HS.out S1.out c4 c5 (by omega)).mono ?_
                    rintro e w2 ⟨rfl, h2⟩
                    have S2 : Aside (SWK enc k w0 blk off d1 w2) := by rw [HD1.out]; exact h2
                    clear h2 S1
                    go_wp2_with fail
                    go_meet
                    case rel => exact S2
                  | false =>
                    have c4 : ¬ (i < m ∧ m < ee) := fun h => by have := HFF.out.2 h; cases this
                    have E1 := Lib.hid (hrid.out c4)
                    clear c4
                    go_wp2_with fail
                    go_meet
                    case rel => rw [E1.out]; exact S1
                case rest =>
                  clear S1 HFF
                  have S1 := hcut
                  clear hcut f
                  go_upto_region 41 with fail
                  go_cut [199] from 178 (fun vf wx => ∃ f : Bool, vf = .bool f ∧ Hid (f = true ↔ (a < i ∧ i < mid)) ∧ Aside (SWK enc k w0 blk off d1 wx))
                  case first =>
                    by_cases c4 : a < i
                    · have c4z : (a : Int) < (i : Int) := by omega
                      have c4d : decide ((a : Int) < (i : Int)) = true := decide_eq_true c4z
                      have c4n : decide (a < i) = true := decide_eq_true c4
                      by_cases c5 : i < mid
                      · have c5z : (i : Int) < (mid : Int) := by omega
                        have c5d : decide ((i : Int) < (mid : Int)) = true := decide_eq_true c5z
                        have c5n : decide (i < mid) = true := decide_eq_true c5
                        go_wp2_with fail
                        go_meet
                        case rel => exact ⟨true, rfl, Lib.hid ⟨fun _ => ⟨c4, c5⟩, fun _ => rfl⟩, S1⟩
                      · have c5z : ¬ (i : Int) < (mid : Int) := by omega
                        have c5d : decide ((i : Int) < (mid : Int)) = false := decide_eq_false c5z
                        have c5n : decide (i < mid) = false := decide_eq_false c5
                        go_wp2_with fail
                        go_meet
                        case rel => exact ⟨false, rfl, Lib.hid ⟨(fun h => by cases h), (fun h => absurd h.2 c5)⟩, S1⟩
                    · have c4z : ¬ (a : Int) < (i : Int) := by omega
                      have c4d : decide ((a : Int) < (i : Int)) = false := decide_eq_false c4z
                      have c4n : decide (a < i) = false := decide_eq_false c4
                      go_wp2_with fail
                      go_meet
                      case rel => exact ⟨false, rfl, Lib.hid ⟨(fun h => by cases h), (fun h => absurd h.1 c4)⟩, S1⟩
                  case rest =>
                    clear S1
                    obtain ⟨f, rfl, HFF, S1⟩ := hcut
                    go_upto_if 199 with fail
                    go_cut [] from 178 (fun wx => ∃ d2 : Array Nat, Hid (PermIn a mid d1 d2) ∧ Hid (Srt key d2 a mid) ∧ Aside (SWK enc k w0 blk off d2 wx))
                    case first =>
                      cases f with
                      | true =>
                        obtain ⟨c4, c5⟩ := HFF.out.1 rfl
                        go_wp2_with fail
                        refine (IH.out a i mid d1 _ (by omega) hsd.out c4 c5 (by omega) W1.out S1.out).mono ?_
                        rintro e w2 ⟨rfl, d2, g1, g2, g3⟩
                        have S2 : Aside (SWK enc k w0 blk off d2 w2) := g3
                        have G1 := Lib.hid g1
                        have G2 := Lib.hid g2
                        clear g1 g2 g3 S1
                        go_wp2_with fail
                        go_meet
                        case rel => exact ⟨d2, G1, G2, S2⟩
                      | false =>
                        have c4 : ¬ (a < i ∧ i < mid) := fun h => by have := HFF.out.2 h; cases this
                        have G := Lib.hid (W1.out.none c4)
                        clear c4
                        go_wp2_with fail
                        go_meet
                        case rel => exact ⟨d1, Lib.hid (permIn_refl _ _ _), G, S1⟩
                    case rest =>
                      clear S1 HFF
                      obtain ⟨d2, PA, SA, S1⟩ := hcut
                      clear f
                      have W22 : Hid (Two key d2 mid ee b) := Lib.hid (W2.out.keep he4 hm4 PA.out (.inl (Nat.le_refl _)))
                      have hs2 : Hid (d2.size = sz) := Lib.hid (by rw [PA.out.1]; exact hsd.out)
                      have FIN : Hid (∀ d3, PermIn mid b d2 d3 → Srt key d3 mid b → PermIn a b d d3 ∧ Srt key d3 a b) := Lib.hid (fun d3 g1 g2 => by
                        have := join (by omega) (by omega) (by rw [hsd.out]; exact hb) PA.out SA.out g1 g2 W3.out
                        exact ⟨permIn_trans _ _ _ a b P1.out this.1, this.2⟩)
                      go_upto_region 43 with fail
                      go_cut [213] from 178 (fun vf wx => ∃ f : Bool, vf = .bool f ∧ Hid (f = true ↔ (mid < ee ∧ ee < b)) ∧ Aside (SWK enc k w0 blk off d2 wx))
                      case first =>
                        by_cases c4 : mid < ee
                        · have c4z : (mid : Int) < (ee : Int) := by omega
                          have c4d : decide ((mid : Int) < (ee : Int)) = true := decide_eq_true c4z
                          have c4n : decide (mid < ee) = true := decide_eq_true c4
                          by_cases c5 : ee < b
                          · have c5z : (ee : Int) < (b : Int) := by omega
                            have c5d : decide ((ee : Int) < (b : Int)) = true := decide_eq_true c5z
                            have c5n : decide (ee < b) = true := decide_eq_true c5
                            go_wp2_with fail
                            go_meet
                            case rel => exact ⟨true, rfl, Lib.hid ⟨fun _ => ⟨c4, c5⟩, fun _ => rfl⟩, S1⟩
                          · have c5z : ¬ (ee : Int) < (b : Int) := by omega
                            have c5d : decide ((ee : Int) < (b : Int)) = false := decide_eq_false c5z
                            have c5n : decide (ee < b) = false := decide_eq_false c5
                            go_wp2_with fail
                            go_meet
                            case rel => exact ⟨false, rfl, Lib.hid ⟨(fun h => by cases h), (fun h => absurd h.2 c5)⟩, S1⟩
                        · have c4z : ¬ (mid : Int) < (ee : Int) := by omega
                          have c4d : decide ((mid : Int) < (ee : Int)) = false := decide_eq_false c4z
                          have c4n : decide (mid < ee) = false := decide_eq_false c4
                          go_wp2_with fail
                          go_meet
                          case rel => exact ⟨false, rfl, Lib.hid ⟨(fun h => by cases h), (fun h => absurd h.1 c4)⟩, S1⟩
                      case rest =>
                        clear S1
                        obtain ⟨f, rfl, HFF, S1⟩ := hcut
                        cases f with
                        | true =>
                          obtain ⟨c4, c5⟩ := HFF.out.1 rfl
                          go_wp2_with fail
                          refine (IH.out mid ee b d2 _ (by omega) hs2.out c4 c5 hb W22.out S1.out).mono ?_
                          rintro e w2 ⟨rfl, d3, g1, g2, g3⟩
                          have S2 : Aside (SWK enc k w0 blk off d3 w2) := g3
                          have G := Lib.hid (FIN.out d3 g1 g2)
                          clear g1 g2 g3 S1
                          go_wp2_with fail
                          go_end0
                          exact ⟨rfl, d3, G.out.1, G.out.2, S2.out⟩
                        | false =>
                          have c4 : ¬ (mid < ee ∧ ee < b) := fun h => by have := HFF.out.2 h; cases this
                          have G := Lib.hid (FIN.out d2 (permIn_refl _ _ _) (W22.out.none c4))
                          clear c4
                          go_wp2_with fail
                          go_end0
                          exact ⟨rfl, d2, G.out.1, G.out.2, S1.out⟩
end Go.Proofs.Ytjnehpkkkmicfaa.St
namespace Go.Proofs.Ytjnehpkkkmicfaa.St
open Go.Shelf Go.RowKit Go.Lib Go.Sort Go.Proofs

set_option maxHeartbeats 16000000 in
set_option maxRecDepth 1000000 in
theorem insert_I (enc : Nat → Value) (key : Nat → Nat) (g : Nat) (cb : Array Value) (blk off cap sz : Nat) (d0 : Array Nat) (w0 : World) (eg : ∀ args w, (callFunc g args).run Try.prog w = .ok (.enter g args) w) (hcmp : 0 < sz → CmpLays1 Try.prog g cb enc (cmpK key) blk off d0.size w0) (R : Row1 enc w0 blk off d0) (hs0 : d0.size = sz) (hsz : sz < 1000000000) (a b : Nat) (d : Array Nat) (w : World) (hs : d.size = sz) (hab : a ≤ b) (hb : b ≤ sz) (S : SW enc w0 blk off d w) :
    Calls Try.prog 95 #[.slice (some ⟨blk, off, none⟩) sz cap, .int .i64 a, .int .i64 b, .func (.func g) #[] cb] w fun e w' => e = .returned (.tuple #[]) ∧ SW enc w0 blk off (Sort.insertionSort (ltOf (cmpK key)) d a b) w' := by
  have mixed : Try.prog.follows Departure.mixedOrders = true := by kernel_rfl
  have hcl0 := R.hO.cells
  simp only [Value.cells] at hcl0
  have hst := R.hO.store Try.prog
  have HC : Aside _ := hcmp
  clear hcmp
  have S0 : Aside (SW enc w0 blk off d w) := S
  have HS := Lib.hid hs
  clear S hs
  go_enter Try.func95, Try.ntmps95
  go_wp2_with fail
  go_loopg [8] (b - a) (fun g1 vi wr => ∃ (i : Nat) (dk : Array Nat), vi = .int .i64 i ∧ a < i ∧ i ≤ b + 1 ∧ b + 1 - i ≤ g1 + 1 ∧ dk.size = sz ∧ Hid (insOuter (ltOf (cmpK key)) a b i dk = insOuter (ltOf (cmpK key)) a b (a + 1) d) ∧ Aside (SW enc w0 blk off dk wr))
  case atStart => exact ⟨a + 1, d, by go_num, by omega, by omega, by omega, HS.out, rfl, S0⟩
  case round =>
    clear S0
    obtain ⟨i, dk, rfl, hai, hib, hg1, hsk, HO, S1⟩ := hrel
    by_cases hlt : i < b
    · have hltz : (i : Int) < (b : Int) := by omega
      go_wp2_with fail
      go_loopg [9] i (fun g2 vj wr2 => ∃ (j : Nat) (dj : Array Nat), vj = .int .i64 j ∧ a ≤ j ∧ j ≤ i ∧ j ≤ g2 ∧ dj.size = sz ∧ Hid (insInner (ltOf (cmpK key)) a j dj = insInner (ltOf (cmpK key)) a i dk) ∧ Aside (SW enc w0 blk off dj wr2))
      case atStart => exact ⟨i, dk, rfl, by omega, Nat.le_refl _, Nat.le_refl _, hsk, rfl, S1⟩
      case round =>
        clear S1
        obtain ⟨j, dj, rfl, haj, hji, hg2, hsj, HI, S1⟩ := hrel
        have OUT : Hid ((j ≤ a ∨ (ltOf (cmpK key)) dj[j]! dj[j - 1]! = false) → Hid (insOuter (ltOf (cmpK key)) a b (i + 1) dj = insOuter (ltOf (cmpK key)) a b (a + 1) d)) := Lib.hid (fun hs => by
          show _ = _
          rw [← HO.out, insOuter_go _ _ _ _ _ hlt, ← HI.out, insInner_stop _ _ _ _ hs])
        by_cases hja : a < j
        · obtain ⟨jp, rfl⟩ : ∃ q, j = q + 1 := ⟨j - 1, by omega⟩
          obtain ⟨jn, hjn⟩ : ∃ q, q = jp + 1 := ⟨_, rfl⟩
          rw [← hjn] at HI OUT hja hji hg2 ⊢
          have hzg : (a : Int) < (jn : Int) := by omega
          have hzd : decide ((a : Int) < (jn : Int)) = true := decide_eq_true hzg
          have hzn : decide (a < jn) = true := decide_eq_true hja
          have ej : (jn : Int) - 1 = (jp : Int) := by omega
          have wj : IntKind.i64.wrap (jp : Int) = (jp : Int) := by rw [IntKind.wrap_i64]; omega
          have p0 : (0 : Int) ≤ (jn : Int) := by omega
          have p1 : (jn : Int) < (sz : Int) := by omega
          have p2 : (0 : Int) ≤ (jp : Int) := by omega
          have p3 : (jp : Int) < (sz : Int) := by omega
          have HJN := Lib.hid hjn
          have hjj : jp < jn ∧ jn < sz ∧ a ≤ jp ∧ jp ≤ i := by omega
          have hj1 : jn - 1 = jp := by omega
          have HJ1 := Lib.hid hj1
          clear hjn hj1
          by_cases hv : cmpK key dj[jn]! dj[jp]! < 0
          · have HIN : Hid (insInner (ltOf (cmpK key)) a jp (swp dj jn jp) = insInner (ltOf (cmpK key)) a i dk) := Lib.hid (by
              have := insInner_go (ltOf (cmpK key)) a jn dj hja (by rw [HJ1.out]; exact decide_eq_true hv)
              rw [HJ1.out] at this
              rw [← HI.out, this])
            obtain ⟨x300, hx300⟩ : ∃ x, x = dj[jn]! := ⟨_, rfl⟩
            obtain ⟨y300, hy300⟩ : ∃ x, x = dj[jp]! := ⟨_, rfl⟩
            have la300 := S1.out.cl R (by omega) jn (by omega)
            have lb300 := S1.out.cl R (by omega) jp (by omega)
            rw [← hx300] at la300
            rw [← hy300] at lb300
            have hc300 := S1.out.cmp (HC.out (by omega)) (by omega) x300 y300
            have hd300 : decide (cmpK key x300 y300 < 0) = true := by rw [hx300, hy300]; exact decide_eq_true hv
            generalize cmpK key x300 y300 = cv300 at hc300 hd300
            clear hx300 hy300
            go_wp2_with fail
            go_quiet_grown (first | (go_at_fn g; refine Calls.grown_of (hc300 _ _)))
            have S2 : Aside (SW enc w0 blk off dj (grow (wr.drewN nq) osq)) := S1.out.grown nq osq
            clear la300 lb300 hc300 S1
            generalize grow (wr.drewN nq) osq = w2 at S2 ⊢
            clear nq osq
            go_wp2_with fail
            have p0a301 : (0 : Int) ≤ (jn : Int) := by omega
            have p1a301 : (jn : Int) < (sz : Int) := by omega
            have p0b301 : (0 : Int) ≤ (jp : Int) := by omega
            have p1b301 : (jp : Int) < (sz : Int) := by omega
            obtain ⟨x301, hx301⟩ : ∃ x, x = dj[jn]! := ⟨_, rfl⟩
            obtain ⟨y301, hy301⟩ : ∃ x, x = dj[jp]! := ⟨_, rfl⟩
            have S3 : Aside (SW enc w0 blk off (swp dj jn jp) ((w2.setCell ⟨blk, off + jn, none⟩ (enc y301)).setCell ⟨blk, off + jp, none⟩ (enc x301)).drew) := by rw [hx301, hy301]; exact S2.out.swapped R jn jp (by omega) (by omega)
            have ca301 := S2.out.c1 R (by omega) jn (by omega)
            have cb301 := S2.out.c1 R (by omega) jp (by omega)
            have fa301 := S2.out.f1 R (by omega) jn (by omega)
            have fb301 := S2.out.f1 R (by omega) jp (by omega)
            obtain ⟨u301, cc301⟩ := S2.out.c2 R (by omega) jn jp (by omega) (by omega) (enc y301)
            rw [← hx301] at ca301
            rw [← hy301] at cb301
            clear hx301 hy301 S2
            go_wp2_with fail
            go_big_region_o
            clear ca301 cb301 cc301 fa301 fb301
            generalize ((w2.setCell ⟨blk, off + jn, none⟩ (enc y301)).setCell ⟨blk, off + jp, none⟩ (enc x301)).drew = w3 at S3 ⊢
            go_wp2_with fail
            go_roundg jp
            case measure => omega
            case rel => exact ⟨jp, swp dj jn jp, by first | rfl | go_num, hjj.2.2.1, hjj.2.2.2, Nat.le_refl _, by rw [size_swp]; exact hsj, HIN, S3⟩
          · have HOUT : Hid (insOuter (ltOf (cmpK key)) a b (i + 1) dj = insOuter (ltOf (cmpK key)) a b (a + 1) d) := OUT.out (.inr (by rw [HJ1.out]; exact decide_eq_false hv))
            obtain ⟨x302, hx302⟩ : ∃ x, x = dj[jn]! := ⟨_, rfl⟩
            obtain ⟨y302, hy302⟩ : ∃ x, x = dj[jp]! := ⟨_, rfl⟩
            have la302 := S1.out.cl R (by omega) jn (by omega)
            have lb302 := S1.out.cl R (by omega) jp (by omega)
            rw [← hx302] at la302
            rw [← hy302] at lb302
            have hc302 := S1.out.cmp (HC.out (by omega)) (by omega) x302 y302
            have hd302 : decide (cmpK key x302 y302 < 0) = false := by rw [hx302, hy302]; exact decide_eq_false hv
            generalize cmpK key x302 y302 = cv302 at hc302 hd302
            clear hx302 hy302
            go_wp2_with fail
            go_quiet_grown (first | (go_at_fn g; refine Calls.grown_of (hc302 _ _)))
            have S2 : Aside (SW enc w0 blk off dj (grow (wr.drewN nq) osq)) := S1.out.grown nq osq
            clear la302 lb302 hc302 S1
            generalize grow (wr.drewN nq) osq = w2 at S2 ⊢
            clear nq osq
            go_wp2_with fail
            go_roundg (b - (i + 1))
            case measure => omega
            case rel => exact ⟨i + 1, dj, by go_num, by omega, by omega, by omega, hsj, HOUT, S2⟩
        · have hzg : ¬ (a : Int) < (j : Int) := by omega
          have hzd : decide ((a : Int) < (j : Int)) = false := decide_eq_false hzg
          have hzn : decide (a < j) = false := decide_eq_false hja
          have HOUT : Hid (insOuter (ltOf (cmpK key)) a b (i + 1) dj = insOuter (ltOf (cmpK key)) a b (a + 1) d) := OUT.out (.inl (by omega))
          go_wp2_with fail
          go_big_region_o
          have S2 : Aside (SW enc w0 blk off dj wr.drew) := S1.out.drew
          clear S1
          generalize wr.drew = w2 at S2 ⊢
          go_wp2_with fail
          go_roundg (b - (i + 1))
          case measure => omega
          case rel => exact ⟨i + 1, dj, by go_num, by omega, by omega, by omega, hsj, HOUT, S2⟩
    · have hltz : ¬ (i : Int) < (b : Int) := by omega
      have F : Hid (insOuter (ltOf (cmpK key)) a b (a + 1) d = dk) := Lib.hid (by rw [← HO.out, insOuter_stop _ _ _ _ _ hlt])
      go_wp2_with fail
      go_end0
      exact ⟨rfl, by unfold Sort.insertionSort; rw [F.out]; exact S1.out⟩
end Go.Proofs.Ytjnehpkkkmicfaa.St
namespace Go.Proofs.Ytjnehpkkkmicfaa.St
open Go.Shelf Go.RowKit Go.Lib Go.Sort Go.Proofs

set_option maxHeartbeats 16000000 in
set_option maxRecDepth 1000000 in
theorem insert_P (k : Nat) (aE : ∀ w, (isAgg 121).run Try.prog w = .ok true w) (zE : ∀ w, (Go.sizeOf 121).run Try.prog w = .ok k w) (enc : Nat → List Value) (key : Nat → Nat) (g : Nat) (cb : Array Value) (blk off cap sz : Nat) (d0 : Array Nat) (w0 : World) (eg : ∀ args w, (callFunc g args).run Try.prog w = .ok (.enter g args) w) (hcmp : 0 < sz → CmpLays Try.prog g cb enc k (cmpK key) blk off d0.size w0) (R : RowK enc k w0 blk off d0) (hs0 : d0.size = sz) (hsz : sz < 1000000000) (a b : Nat) (d : Array Nat) (w : World) (hs : d.size = sz) (hab : a ≤ b) (hb : b ≤ sz) (S : SWK enc k w0 blk off d w) :
    Calls Try.prog 99 #[.slice (some ⟨blk, off, none⟩) sz cap, .int .i64 a, .int .i64 b, .func (.func g) #[] cb] w fun e w' => e = .returned (.tuple #[]) ∧ SWK enc k w0 blk off (Sort.insertionSort (ltOf (cmpK key)) d a b) w' := by
  have mixed : Try.prog.follows Departure.mixedOrders = true := by kernel_rfl
  have HC : Aside _ := hcmp
  clear hcmp
  have S0 : Aside (SWK enc k w0 blk off d w) := S
  have HS := Lib.hid hs
  clear S hs
  go_enter Try.func99, Try.ntmps99
  go_wp2_with fail
  go_loopg [8] (b - a) (fun g1 vi wr => ∃ (i : Nat) (dk : Array Nat), vi = .int .i64 i ∧ a < i ∧ i ≤ b + 1 ∧ b + 1 - i ≤ g1 + 1 ∧ dk.size = sz ∧ Hid (insOuter (ltOf (cmpK key)) a b i dk = insOuter (ltOf (cmpK key)) a b (a + 1) d) ∧ Aside (SWK enc k w0 blk off dk wr))
  case atStart => exact ⟨a + 1, d, by go_num, by omega, by omega, by omega, HS.out, rfl, S0⟩
  case round =>
    clear S0
    obtain ⟨i, dk, rfl, hai, hib, hg1, hsk, HO, S1⟩ := hrel
    by_cases hlt : i < b
    · have hltz : (i : Int) < (b : Int) := by omega
      go_wp2_with fail
      go_loopg [9] i (fun g2 vj wr2 => ∃ (j : Nat) (dj : Array Nat), vj = .int .i64 j ∧ a ≤ j ∧ j ≤ i ∧ j ≤ g2 ∧ dj.size = sz ∧ Hid (insInner (ltOf (cmpK key)) a j dj = insInner (ltOf (cmpK key)) a i dk) ∧ Aside (SWK enc k w0 blk off dj wr2))
      case atStart => exact ⟨i, dk, rfl, by omega, Nat.le_refl _, Nat.le_refl _, hsk, rfl, S1⟩
      case round =>
        clear S1
        obtain ⟨j, dj, rfl, haj, hji, hg2, hsj, HI, S1⟩ := hrel
        have OUT : Hid ((j ≤ a ∨ (ltOf (cmpK key)) dj[j]! dj[j - 1]! = false) → Hid (insOuter (ltOf (cmpK key)) a b (i + 1) dj = insOuter (ltOf (cmpK key)) a b (a + 1) d)) := Lib.hid (fun hs => by
          show _ = _
          rw [← HO.out, insOuter_go _ _ _ _ _ hlt, ← HI.out, insInner_stop _ _ _ _ hs])
        by_cases hja : a < j
        · obtain ⟨jp, rfl⟩ : ∃ q, j = q + 1 := ⟨j - 1, by omega⟩
          obtain ⟨jn, hjn⟩ : ∃ q, q = jp + 1 := ⟨_, rfl⟩
          rw [← hjn] at HI OUT hja hji hg2 ⊢
          have hzg : (a : Int) < (jn : Int) := by omega
          have hzd : decide ((a : Int) < (jn : Int)) = true := decide_eq_true hzg
          have hzn : decide (a < jn) = true := decide_eq_true hja
          have ej : (jn : Int) - 1 = (jp : Int) := by omega
          have wj : IntKind.i64.wrap (jp : Int) = (jp : Int) := by rw [IntKind.wrap_i64]; omega
          have p0 : (0 : Int) ≤ (jn : Int) := by omega
          have p1 : (jn : Int) < (sz : Int) := by omega
          have p2 : (0 : Int) ≤ (jp : Int) := by omega
          have p3 : (jp : Int) < (sz : Int) := by omega
          have HJN := Lib.hid hjn
          have hjj : jp < jn ∧ jn < sz ∧ a ≤ jp ∧ jp ≤ i := by omega
          have hj1 : jn - 1 = jp := by omega
          have HJ1 := Lib.hid hj1
          clear hjn hj1
          by_cases hv : cmpK key dj[jn]! dj[jp]! < 0
          · have HIN : Hid (insInner (ltOf (cmpK key)) a jp (swp dj jn jp) = insInner (ltOf (cmpK key)) a i dk) := Lib.hid (by
              have := insInner_go (ltOf (cmpK key)) a jn dj hja (by rw [HJ1.out]; exact decide_eq_true hv)
              rw [HJ1.out] at this
              rw [← HI.out, this])
            obtain ⟨x300, hx300⟩ : ∃ x, x = dj[jn]! := ⟨_, rfl⟩
            obtain ⟨y300, hy300⟩ : ∃ x, x = dj[jp]! := ⟨_, rfl⟩
            have la300 := S1.out.ld R (by omega) Try.prog jn (by omega)
            have lb300 := S1.out.ld R (by omega) Try.prog jp (by omega)
            rw [← hx300] at la300
            rw [← hy300] at lb300
            have hc300 := S1.out.cmp (HC.out (by omega)) (by omega) x300 y300
            have hd300 : decide (cmpK key x300 y300 < 0) = true := by rw [hx300, hy300]; exact decide_eq_true hv
            generalize cmpK key x300 y300 = cv300 at hc300 hd300
            clear hx300 hy300
            have na300 : (enc x300).length = k := R.hk _
            have nb300 : (enc y300).length = k := R.hk _
            go_wp2_with fail
            go_quiet_grown (first | (go_at_fn g; refine Calls.grown_of (hc300 _ _)))
            have S2 : Aside (SWK enc k w0 blk off dj (grow (wr.drewN nq) osq)) := S1.out.grown nq osq
            clear la300 lb300 hc300 S1
            generalize grow (wr.drewN nq) osq = w2 at S2 ⊢
            clear nq osq
            go_wp2_with fail
            have p0a301 : (0 : Int) ≤ (jn : Int) := by omega
            have p1a301 : (jn : Int) < (sz : Int) := by omega
            have p0b301 : (0 : Int) ≤ (jp : Int) := by omega
            have p1b301 : (jp : Int) < (sz : Int) := by omega
            have S3 : Aside (SWK enc k w0 blk off (swp dj jn jp) ((w2.drew.setCells blk (off + jn * k) (enc dj[jp]!)).setCells blk (off + jp * k) (enc dj[jn]!))) := S2.out.swapped R jn jp (by omega) (by omega)
            have la301 := S2.out.ld1 R (by omega) Try.prog jn (by omega)
            have lb301 := S2.out.ld1 R (by omega) Try.prog jp (by omega)
            have sa301 := S2.out.st1 R (by omega) Try.prog jn (by omega) dj[jp]!
            have sb301 := S2.out.st2 R (by omega) Try.prog jn jp (by omega) (by omega) dj[jp]! dj[jn]!
            have na301 : (enc dj[jn]!).length = k := R.hk _
            have nb301 : (enc dj[jp]!).length = k := R.hk _
            generalize enc dj[jn]! = cI301 at S3 la301 sb301 na301
            generalize enc dj[jp]! = cJ301 at S3 lb301 sa301 sb301 nb301
            clear S2
            go_wp2_with fail
            go_big_region_o
            clear la301 lb301 sa301 sb301
            generalize (w2.drew.setCells blk (off + jn * k) cJ301).setCells blk (off + jp * k) cI301 = w3 at S3 ⊢
            go_wp2_with fail
            go_roundg jp
            case measure => omega
            case rel => exact ⟨jp, swp dj jn jp, by first | rfl | go_num, hjj.2.2.1, hjj.2.2.2, Nat.le_refl _, by rw [size_swp]; exact hsj, HIN, S3⟩
          · have HOUT : Hid (insOuter (ltOf (cmpK key)) a b (i + 1) dj = insOuter (ltOf (cmpK key)) a b (a + 1) d) := OUT.out (.inr (by rw [HJ1.out]; exact decide_eq_false hv))
            obtain ⟨x302, hx302⟩ : ∃ x, x = dj[jn]! := ⟨_, rfl⟩
            obtain ⟨y302, hy302⟩ : ∃ x, x = dj[jp]! := ⟨_, rfl⟩
            have la302 := S1.out.ld R (by omega) Try.prog jn (by omega)
            have lb302 := S1.out.ld R (by omega) Try.prog jp (by omega)
            rw [← hx302] at la302
            rw [← hy302] at lb302
            have hc302 := S1.out.cmp (HC.out (by omega)) (by omega) x302 y302
            have hd302 : decide (cmpK key x302 y302 < 0) = false := by rw [hx302, hy302]; exact decide_eq_false hv
            generalize cmpK key x302 y302 = cv302 at hc302 hd302
            clear hx302 hy302
            have na302 : (enc x302).length = k := R.hk _
            have nb302 : (enc y302).length = k := R.hk _
            go_wp2_with fail
            go_quiet_grown (first | (go_at_fn g; refine Calls.grown_of (hc302 _ _)))
            have S2 : Aside (SWK enc k w0 blk off dj (grow (wr.drewN nq) osq)) := S1.out.grown nq osq
            clear la302 lb302 hc302 S1
            generalize grow (wr.drewN nq) osq = w2 at S2 ⊢
            clear nq osq
            go_wp2_with fail
            go_roundg (b - (i + 1))
            case measure => omega
            case rel => exact ⟨i + 1, dj, by go_num, by omega, by omega, by omega, hsj, HOUT, S2⟩
        · have hzg : ¬ (a : Int) < (j : Int) := by omega
          have hzd : decide ((a : Int) < (j : Int)) = false := decide_eq_false hzg
          have hzn : decide (a < j) = false := decide_eq_false hja
          have HOUT : Hid (insOuter (ltOf (cmpK key)) a b (i + 1) dj = insOuter (ltOf (cmpK key)) a b (a + 1) d) := OUT.out (.inl (by omega))
          go_wp2_with fail
          go_big_region_o
          have S2 : Aside (SWK enc k w0 blk off dj wr.drew) := S1.out.drew
          clear S1
          generalize wr.drew = w2 at S2 ⊢
          go_wp2_with fail
          go_roundg (b - (i + 1))
          case measure => omega
          case rel => exact ⟨i + 1, dj, by go_num, by omega, by omega, by omega, hsj, HOUT, S2⟩
    · have hltz : ¬ (i : Int) < (b : Int) := by omega
      have F : Hid (insOuter (ltOf (cmpK key)) a b (a + 1) d = dk) := Lib.hid (by rw [← HO.out, insOuter_stop _ _ _ _ _ hlt])
      go_wp2_with fail
      go_end0
      exact ⟨rfl, by unfold Sort.insertionSort; rw [F.out]; exact S1.out⟩
end Go.Proofs.Ytjnehpkkkmicfaa.St
namespace Go.Proofs.Ytjnehpkkkmicfaa.St
open Go.Shelf Go.RowKit Go.Lib Go.Sort Go.Proofs

set_option maxHeartbeats 16000000 in
set_option maxRecDepth 1000000 in
theorem stable_I (enc : Nat → Value) (key : Nat → Nat) (g : Nat) (cb : Array Value) (blk off cap sz : Nat) (d0 : Array Nat) (w0 : World) (eg : ∀ args w, (callFunc g args).run Try.prog w = .ok (.enter g args) w) (hcmp : 0 < sz → CmpLays1 Try.prog g cb enc (cmpK key) blk off d0.size w0) (R : Row1 enc w0 blk off d0) (hs0 : d0.size = sz) (hsz : sz < 1000000000) (d : Array Nat) (w : World) (hs : d.size = sz) (hA : Asc d 0 sz) (S : SW enc w0 blk off d w) :
    Calls Try.prog 91 #[.slice (some ⟨blk, off, none⟩) sz cap, .int .i64 sz, .func (.func g) #[] cb] w (MgI enc key w0 blk off d 0 sz) := by
  have HS := Lib.hid hs
  have S0 : Aside (SW enc w0 blk off d w) := S
  have CI : Hid (∀ (a b : Nat) (dk : Array Nat) (W : World), dk.size = sz → a ≤ b → b ≤ sz → SW enc w0 blk off dk W → Asc dk a b → Calls Try.prog 95 #[.slice (some ⟨blk, off, none⟩) sz cap, .int .i64 a, .int .i64 b, .func (.func g) #[] cb] W (MgI enc key w0 blk off dk a b)) := Lib.hid (fun a b dk W h1 h2 h3 h4 h5 => by
    refine (insert_I enc key g cb blk off cap sz d0 w0 eg hcmp R hs0 hsz a b dk W h1 h2 h3 h4).mono ?_
    rintro e w1 ⟨g1, g2⟩
    have := ins_all (key := key) h2 (by omega) h5
    exact ⟨g1, _, this.1, this.2, g2⟩)
  have CM : Hid (∀ (a m b : Nat) (dk : Array Nat) (W : World), dk.size = sz → a < m → m < b → b ≤ sz → Two key dk a m b → SW enc w0 blk off dk W → Calls Try.prog 96 #[.slice (some ⟨blk, off, none⟩) sz cap, .int .i64 a, .int .i64 m, .int .i64 b, .func (.func g) #[] cb] W (MgI enc key w0 blk off dk a b)) := Lib.hid (fun a m b dk W h1 h2 h3 h4 h5 h6 => symMerge_I enc key g cb blk off cap sz d0 w0 eg hcmp R hs0 hsz (b - a) a m b dk W (Nat.le_refl _) h1 h2 h3 h4 h5 h6)
  have HSTART : Hid (Seg key d sz (cuts 1 20 0)) := Lib.hid (seg_start hA 20)
  clear S hs hA hcmp
  go_enter Try.func91, Try.ntmps91
  go_wp2_with fail
  go_loopg [7, 8] sz (fun gh va vb wr => ∃ (a b : Nat) (dk : Array Nat), va = .int .i64 a ∧ vb = .int .i64 b ∧ b = a + 20 ∧ 20 ∣ a ∧ a ≤ sz ∧ sz - a ≤ gh ∧ Hid (dk.size = sz) ∧ Hid (Seg key dk sz (cuts 1 20 a)) ∧ Hid (PermIn 0 sz d dk) ∧ Aside (SW enc w0 blk off dk wr))
  case atStart => exact ⟨0, 20, d, rfl, rfl, rfl, Nat.dvd_zero _, Nat.zero_le _, Nat.le_refl _, HS, HSTART, Lib.hid (permIn_refl _ _ _), S0⟩
  case round =>
    clear S0 HSTART
    obtain ⟨a, b, dk, rfl, rfl, hab, hda, has, hgh, HSK, HSEG, HP, S1⟩ := hrel
    have HAB := Lib.hid hab
    by_cases hlt : b ≤ sz
    · have hz : (b : Int) ≤ (sz : Int) := by omega
      have hzd : decide ((b : Int) ≤ (sz : Int)) = true := decide_eq_true hz
      obtain ⟨c, hc⟩ : ∃ c, c = b + 20 := ⟨_, rfl⟩
      have ec : (b : Int) + 20 = (c : Int) := by omega
      have wc1 : IntKind.i64.wrap (c : Int) = (c : Int) := by rw [IntKind.wrap_i64]; omega
      have HC2 := Lib.hid hc
      have hle : a ≤ b := by omega
      have hm : sz - b < sz - a := by omega
      have NX : Hid (∀ d2, PermIn a b dk d2 → Srt key d2 a b → Seg key d2 sz (cuts 1 20 b) ∧ PermIn 0 sz d d2 ∧ d2.size = sz) := Lib.hid (fun d2 g1 g2 => by
        have h1 := HAB.out
        rw [h1] at g1 g2 hlt ⊢
        exact ⟨seg_next HSEG.out (Nat.one_dvd _) hda hlt (Nat.le_of_eq HSK.out.symm) g1 g2, permIn_trans _ _ _ 0 sz HP.out (permIn_mono _ _ a (a + 20) 0 sz (Nat.zero_le _) hlt (Nat.le_of_eq HSK.out.symm) g1), by rw [g1.1]; exact HSK.out⟩)
      have hdb : 20 ∣ b := by omega
      have C1 := Lib.hid (CI.out a b dk wr HSK.out hle hlt S1.out (seg_asc HSEG.out hlt))
      clear hab hc hda S1 HSEG HP
      go_wp2_with fail
      refine C1.out.mono ?_
      rintro e w2 ⟨rfl, d2, g1, g2, g3⟩
      have N2 := NX.out d2 g1 g2
      have N2a := Lib.hid N2.1
      have N2b := Lib.hid N2.2.1
      have N2c := Lib.hid N2.2.2
      have S2 : Aside (SW enc w0 blk off d2 w2) := g3
      clear g1 g2 g3 N2 C1
      go_wp2_with fail
      go_roundg (sz - b)
      case measure => omega
      case rel => exact ⟨b, c, d2, rfl, by first | rfl | go_num, HC2.out, hdb, hlt, Nat.le_refl _, N2c, N2a, N2b, S2⟩
    · have hz : ¬ (b : Int) ≤ (sz : Int) := by omega
      have hzd : decide ((b : Int) ≤ (sz : Int)) = false := decide_eq_false hz
      have NX : Hid (∀ d2, PermIn a sz dk d2 → Srt key d2 a sz → Seg key d2 sz (cuts 20 40 0) ∧ PermIn 0 sz d d2 ∧ d2.size = sz) := Lib.hid (fun d2 g1 g2 => by
        exact ⟨seg_last HSEG.out (Nat.one_dvd _) hda (by omega) (Nat.le_of_eq HSK.out.symm) g1 g2 40, permIn_trans _ _ _ 0 sz HP.out (permIn_mono _ _ a sz 0 sz (Nat.zero_le _) (Nat.le_refl _) (Nat.le_of_eq HSK.out.symm) g1), by rw [g1.1]; exact HSK.out⟩)
      have C1 := Lib.hid (CI.out a sz dk wr HSK.out has (Nat.le_refl _) S1.out (seg_asc HSEG.out (Nat.le_refl _)))
      clear hab hda S1 HSEG HP
      go_wp2_with fail
      refine C1.out.mono ?_
      rintro e w2 ⟨rfl, d2, g1, g2, g3⟩
      have N2 := NX.out d2 g1 g2
      have N2a := Lib.hid N2.1
      have N2b := Lib.hid N2.2.1
      have N2c := Lib.hid N2.2.2
      have S2 : Aside (SW enc w0 blk off d2 w2) := g3
      clear g1 g2 g3 N2 C1 NX HSK HAB hz hzd hlt has hgh
      go_wp2_with fail
      go_loopg [6] sz (fun gh vs wr => ∃ (bs : Nat) (dk : Array Nat), vs = .int .i64 bs ∧ 0 < bs ∧ bs ≤ 2000000000 ∧ sz - bs ≤ gh ∧ Hid (dk.size = sz) ∧ Hid (Seg key dk sz (cuts bs (2 * bs) 0)) ∧ Hid (PermIn 0 sz d dk) ∧ Aside (SW enc w0 blk off dk wr))
      case atStart => exact ⟨20, d2, rfl, by omega, by omega, by omega, N2c, N2a, N2b, S2⟩
      case round =>
        clear S2 N2a N2b N2c
        obtain ⟨bs, dk, rfl, hbs, hbs2, hgh, HSK, HSEG, HP, S1⟩ := hrel
        by_cases hlt : bs < sz
        · have hz : (bs : Int) < (sz : Int) := by omega
          obtain ⟨B, hB⟩ : ∃ B, B = 2 * bs := ⟨_, rfl⟩
          have eB : (2 : Int) * (bs : Int) = (B : Int) := by omega
          have eB2 : (bs : Int) * 2 = (B : Int) := by omega
          have wB : IntKind.i64.wrap (B : Int) = (B : Int) := by rw [IntKind.wrap_i64]; omega
          have HB := Lib.hid hB
          rw [← hB] at HSEG
          have hB1 : B ≤ 2000000000 ∧ bs < B ∧ sz - B < sz - bs := by omega
          have hbB : Hid (bs ∣ B) := Lib.hid ⟨2, by rw [HB.out, Nat.mul_comm]⟩
          clear hB
          go_wp2_with fail
          go_loopg [7, 8] sz (fun gh va vb wr => ∃ (a b : Nat) (dk : Array Nat), va = .int .i64 a ∧ vb = .int .i64 b ∧ Hid (b = a + B) ∧ Hid (B ∣ a) ∧ a ≤ sz ∧ sz - a ≤ gh ∧ Hid (dk.size = sz) ∧ Hid (Seg key dk sz (cuts bs B a)) ∧ Hid (PermIn 0 sz d dk) ∧ Aside (SW enc w0 blk off dk wr))
          case atStart => exact ⟨0, B, dk, rfl, rfl, Lib.hid (Nat.zero_add _).symm, Lib.hid (Nat.dvd_zero _), Nat.zero_le _, Nat.le_refl _, HSK, HSEG, HP, S1⟩
          case round =>
            clear S1 HSEG HP HSK
            obtain ⟨a, b, dk, rfl, rfl, HAB, HDA, has, hgh2, HSK, HSEG, HP, S1⟩ := hrel
            obtain ⟨m, hm⟩ : ∃ m, m = a + bs := ⟨_, rfl⟩
            have em : (a : Int) + (bs : Int) = (m : Int) := by omega
            have wm : IntKind.i64.wrap (m : Int) = (m : Int) := by rw [IntKind.wrap_i64]; omega
            have HM := Lib.hid hm
            have hb0 := HAB.out
            have hB0 := HB.out
            have hmb : a < m ∧ m < b ∧ b < 4000000000 := by omega
            clear hm
            have hdd : 2 * bs ∣ a := by have := HDA.out; rw [HB.out] at this; exact this
            have HDD := Lib.hid hdd
            clear hdd
            have HSEG2 : Hid (Seg key dk sz (cuts bs (2 * bs) a)) := Lib.hid (by have := HSEG.out; rw [HB.out] at this; exact this)
            by_cases hle : b ≤ sz
            · have hz2 : (b : Int) ≤ (sz : Int) := by omega
              have hzd : decide ((b : Int) ≤ (sz : Int)) = true := decide_eq_true hz2
              obtain ⟨c, hc⟩ : ∃ c, c = b + B := ⟨_, rfl⟩
              have ec : (b : Int) + (B : Int) = (c : Int) := by omega
              have wc1 : IntKind.i64.wrap (c : Int) = (c : Int) := by rw [IntKind.wrap_i64]; omega
              have HC2 := Lib.hid hc
              have hm2 : sz - b < sz - a := by omega
              have HDB : Hid (B ∣ b) := Lib.hid (by rw [HAB.out]; exact (Nat.dvd_add_iff_left (Nat.dvd_refl B)).1 HDA.out)
              have NX : Hid (∀ d2, PermIn a b dk d2 → Srt key d2 a b → Seg key d2 sz (cuts bs B b) ∧ PermIn 0 sz d d2 ∧ d2.size = sz) := Lib.hid (fun d2 g1 g2 => by
                have h1 := HAB.out
                rw [h1] at g1 g2 hle ⊢
                exact ⟨seg_next HSEG.out hbB.out HDA.out hle (Nat.le_of_eq HSK.out.symm) g1 g2, permIn_trans _ _ _ 0 sz HP.out (permIn_mono _ _ a (a + B) 0 sz (Nat.zero_le _) hle (Nat.le_of_eq HSK.out.symm) g1), by rw [g1.1]; exact HSK.out⟩)
              have T2 : Two key dk a m b := by rw [HM.out]; exact seg_two HSEG2.out HDD.out hle (by omega) (by omega) hbs
              have C1 := Lib.hid (CM.out a m b dk wr HSK.out hmb.1 hmb.2.1 hle T2 S1.out)
              clear hc hb0 hB0 T2 S1 HSEG HSEG2 HP
              go_wp2_with fail
              refine C1.out.mono ?_
              rintro e w2 ⟨rfl, d2, g1, g2, g3⟩
              have N2 := NX.out d2 g1 g2
              have N2a := Lib.hid N2.1
              have N2b := Lib.hid N2.2.1
              have N2c := Lib.hid N2.2.2
              have S2 : Aside (SW enc w0 blk off d2 w2) := g3
              clear g1 g2 g3 N2 C1
              go_wp2_with fail
              go_roundg (sz - b)
              case measure => omega
              case rel => exact ⟨b, c, d2, rfl, by first | rfl | go_num, HC2, HDB, hle, Nat.le_refl _, N2c, N2a, N2b, S2⟩
            · have hz2 : ¬ (b : Int) ≤ (sz : Int) := by omega
              have hzd : decide ((b : Int) ≤ (sz : Int)) = false := decide_eq_false hz2
              have NX : Hid (∀ d2, PermIn a sz dk d2 → Srt key d2 a sz → Seg key d2 sz (cuts B (2 * B) 0) ∧ PermIn 0 sz d d2 ∧ d2.size = sz) := Lib.hid (fun d2 g1 g2 => by
                exact ⟨seg_last HSEG.out hbB.out HDA.out (by omega) (Nat.le_of_eq HSK.out.symm) g1 g2 (2 * B), permIn_trans _ _ _ 0 sz HP.out (permIn_mono _ _ a sz 0 sz (Nat.zero_le _) (Nat.le_refl _) (Nat.le_of_eq HSK.out.symm) g1), by rw [g1.1]; exact HSK.out⟩)
              by_cases hmn : m < sz
              · have hz3 : (m : Int) < (sz : Int) := by omega
                have T2 : Two key dk a m sz := by rw [HM.out]; exact seg_two HSEG2.out HDD.out (Nat.le_refl _) (by omega) (by omega) hbs
                have C1 := Lib.hid (CM.out a m sz dk wr HSK.out hmb.1 hmn (Nat.le_refl _) T2 S1.out)
                clear hb0 hB0 T2 S1 HSEG HSEG2 HP
                go_wp2_with fail
                refine C1.out.mono ?_
                rintro e w2 ⟨rfl, d2, g1, g2, g3⟩
                have N2 := NX.out d2 g1 g2
                have N2a := Lib.hid N2.1
                have N2b := Lib.hid N2.2.1
                have N2c := Lib.hid N2.2.2
                have S2 : Aside (SW enc w0 blk off d2 w2) := g3
                clear g1 g2 g3 N2 C1
                go_wp2_with fail
                go_roundg (sz - B)
                case measure => omega
                case rel => exact ⟨B, d2, by first | rfl | go_num, by omega, hB1.1, Nat.le_refl _, N2c, N2a, N2b, S2⟩
              · have hz3 : ¬ (m : Int) < (sz : Int) := by omega
                have N2 := NX.out dk (permIn_refl _ _ _) (seg_rest HSEG2.out HDD.out (by omega))
                have N2a := Lib.hid N2.1
                have N2b := Lib.hid N2.2.1
                have N2c := Lib.hid N2.2.2
                clear N2 NX hb0 hB0 HSEG HSEG2 HP
                go_wp2_with fail
                go_roundg (sz - B)
                case measure => omega
                case rel => exact ⟨B, dk, by first | rfl | go_num, by omega, hB1.1, Nat.le_refl _, N2c, N2a, N2b, S1⟩
        · have hz : ¬ (bs : Int) < (sz : Int) := by omega
          have F := Lib.hid (seg_end HSEG.out (by omega))
          go_wp2_with fail
          go_end0
          exact ⟨rfl, dk, HP.out, F.out, S1.out⟩
set_option maxHeartbeats 16000000 in
set_option maxRecDepth 1000000 in
theorem sort_I (enc : Nat → Value) (key : Nat → Nat) (g : Nat) (cb : Array Value) (blk off cap sz : Nat) (d0 : Array Nat) (w0 : World) (eg : ∀ args w, (callFunc g args).run Try.prog w = .ok (.enter g args) w) (hcmp : 0 < sz → CmpLays1 Try.prog g cb enc (cmpK key) blk off d0.size w0) (R : Row1 enc w0 blk off d0) (hs0 : d0.size = sz) (hsz : sz < 1000000000) (d : Array Nat) (w : World) (hs : d.size = sz) (hA : Asc d 0 sz) (S : SW enc w0 blk off d w) :
    Calls Try.prog 82 #[.slice (some ⟨blk, off, none⟩) sz cap, .func (.func g) #[] cb] w (MgI enc key w0 blk off d 0 sz) := by
  have C := Lib.hid (stable_I enc key g cb blk off cap sz d0 w0 eg hcmp R hs0 hsz d w hs hA S)
  clear S hs hA hcmp
  go_enter Try.func82, Try.ntmps82
  go_wp2_with fail
  refine C.out.mono ?_
  rintro e w2 ⟨rfl, d2, g1, g2, g3⟩
  have F : Hid (MgI enc key w0 blk off d 0 sz (.returned (.tuple #[])) w2) := Lib.hid ⟨rfl, d2, g1, g2, g3⟩
  clear g1 g2 g3
  go_wp2_with fail
  go_end0
  exact F.out
end Go.Proofs.Ytjnehpkkkmicfaa.St
namespace Go.Proofs.Ytjnehpkkkmicfaa.St
open Go.Shelf Go.RowKit Go.Lib Go.Sort Go.Proofs

set_option maxHeartbeats 16000000 in
set_option maxRecDepth 1000000 in
theorem stable_P (k : Nat) (aE : ∀ w, (isAgg 121).run Try.prog w = .ok true w) (zE : ∀ w, (Go.sizeOf 121).run Try.prog w = .ok k w) (enc : Nat → List Value) (key : Nat → Nat) (g : Nat) (cb : Array Value) (blk off cap sz : Nat) (d0 : Array Nat) (w0 : World) (eg : ∀ args w, (callFunc g args).run Try.prog w = .ok (.enter g args) w) (hcmp : 0 < sz → CmpLays Try.prog g cb enc k (cmpK key) blk off d0.size w0) (R : RowK enc k w0 blk off d0) (hs0 : d0.size = sz) (hsz : sz < 1000000000) (d : Array Nat) (w : World) (hs : d.size = sz) (hA : Asc d 0 sz) (S : SWK enc k w0 blk off d w) :
    Calls Try.prog 97 #[.slice (some ⟨blk, off, none⟩) sz cap, .int .i64 sz, .func (.func g) #[] cb] w (MgP k enc key w0 blk off d 0 sz) := by
  have HS := Lib.hid hs
  have S0 : Aside (SWK enc k w0 blk off d w) := S
  have CI : Hid (∀ (a b : Nat) (dk : Array Nat) (W : World), dk.size = sz → a ≤ b → b ≤ sz → SWK enc k w0 blk off dk W → Asc dk a b → Calls Try.prog 99 #[.slice (some ⟨blk, off, none⟩) sz cap, .int .i64 a, .int .i64 b, .func (.func g) #[] cb] W (MgP k enc key w0 blk off dk a b)) := Lib.hid (fun a b dk W h1 h2 h3 h4 h5 => by
    refine (insert_P k aE zE enc key g cb blk off cap sz d0 w0 eg hcmp R hs0 hsz a b dk W h1 h2 h3 h4).mono ?_
    rintro e w1 ⟨g1, g2⟩
    have := ins_all (key := key) h2 (by omega) h5
    exact ⟨g1, _, this.1, this.2, g2⟩)
  have CM : Hid (∀ (a m b : Nat) (dk : Array Nat) (W : World), dk.size = sz → a < m → m < b → b ≤ sz → Two key dk a m b → SWK enc k w0 blk off dk W → Calls Try.prog 100 #[.slice (some ⟨blk, off, none⟩) sz cap, .int .i64 a, .int .i64 m, .int .i64 b, .func (.func g) #[] cb] W (MgP k enc key w0 blk off dk a b)) := Lib.hid (fun a m b dk W h1 h2 h3 h4 h5 h6 => symMerge_P k aE zE enc key g cb blk off cap sz d0 w0 eg hcmp R hs0 hsz (b - a) a m b dk W (Nat.le_refl _) h1 h2 h3 h4 h5 h6)
  have HSTART : Hid (Seg key d sz (cuts 1 20 0)) := Lib.hid (seg_start hA 20)
  clear S hs hA hcmp
  go_enter Try.func97, Try.ntmps97
  go_wp2_with fail
  go_loopg [7, 8] sz (fun gh va vb wr => ∃ (a b : Nat) (dk : Array Nat), va = .int .i64 a ∧ vb = .int .i64 b ∧ b = a + 20 ∧ 20 ∣ a ∧ a ≤ sz ∧ sz - a ≤ gh ∧ Hid (dk.size = sz) ∧ Hid (Seg key dk sz (cuts 1 20 a)) ∧ Hid (PermIn 0 sz d dk) ∧ Aside (SWK enc k w0 blk off dk wr))
  case atStart => exact ⟨0, 20, d, rfl, rfl, rfl, Nat.dvd_zero _, Nat.zero_le _, Nat.le_refl _, HS, HSTART, Lib.hid (permIn_refl _ _ _), S0⟩
  case round =>
    clear S0 HSTART
    obtain ⟨a, b, dk, rfl, rfl, hab, hda, has, hgh, HSK, HSEG, HP, S1⟩ := hrel
    have HAB := Lib.hid hab
    by_cases hlt : b ≤ sz
    · have hz : (b : Int) ≤ (sz : Int) := by omega
      have hzd : decide ((b : Int) ≤ (sz : Int)) = true := decide_eq_true hz
      obtain ⟨c, hc⟩ : ∃ c, c = b + 20 := ⟨_, rfl⟩
      have ec : (b : Int) + 20 = (c : Int) := by omega
      have wc1 : IntKind.i64.wrap (c : Int) = (c : Int) := by rw [IntKind.wrap_i64]; omega
      have HC2 := Lib.hid hc
      have hle : a ≤ b := by omega
      have hm : sz - b < sz - a := by omega
      have NX : Hid (∀ d2, PermIn a b dk d2 → Srt key d2 a b → Seg key d2 sz (cuts 1 20 b) ∧ PermIn 0 sz d d2 ∧ d2.size = sz) := Lib.hid (fun d2 g1 g2 => by
        have h1 := HAB.out
        rw [h1] at g1 g2 hlt ⊢
        exact ⟨seg_next HSEG.out (Nat.one_dvd _) hda hlt (Nat.le_of_eq HSK.out.symm) g1 g2, permIn_trans _ _ _ 0 sz HP.out (permIn_mono _ _ a (a + 20) 0 sz (Nat.zero_le _) hlt (Nat.le_of_eq HSK.out.symm) g1), by rw [g1.1]; exact HSK.out⟩)
      have hdb : 20 ∣ b := by omega
      have C1 := Lib.hid (CI.out a b dk wr HSK.out hle hlt S1.out (seg_asc HSEG.out hlt))
      clear hab hc hda S1 HSEG HP
      go_wp2_with fail
      refine C1.out.mono ?_
      rintro e w2 ⟨rfl, d2, g1, g2, g3⟩
      have N2 := NX.out d2 g1 g2
      have N2a := Lib.hid N2.1
      have N2b := Lib.hid N2.2.1
      have N2c := Lib.hid N2.2.2
      have S2 : Aside (SWK enc k w0 blk off d2 w2) := g3
      clear g1 g2 g3 N2 C1
      go_wp2_with fail
      go_roundg (sz - b)
      case measure => omega
      case rel => exact ⟨b, c, d2, rfl, by first | rfl | go_num, HC2.out, hdb, hlt, Nat.le_refl _, N2c, N2a, N2b, S2⟩
    · have hz : ¬ (b : Int) ≤ (sz : Int) := by omega
      have hzd : decide ((b : Int) ≤ (sz : Int)) = false := decide_eq_false hz
      have NX : Hid (∀ d2, PermIn a sz dk d2 → Srt key d2 a sz → Seg key d2 sz (cuts 20 40 0) ∧ PermIn 0 sz d d2 ∧ d2.size = sz) := Lib.hid (fun d2 g1 g2 => by
        exact ⟨seg_last HSEG.out (Nat.one_dvd _) hda (by omega) (Nat.le_of_eq HSK.out.symm) g1 g2 40, permIn_trans _ _ _ 0 sz HP.out (permIn_mono _ _ a sz 0 sz (Nat.zero_le _) (Nat.le_refl _) (Nat.le_of_eq HSK.out.symm) g1), by rw [g1.1]; exact HSK.out⟩)
      have C1 := Lib.hid (CI.out a sz dk wr HSK.out has (Nat.le_refl _) S1.out (seg_asc HSEG.out (Nat.le_refl _)))
      clear hab hda S1 HSEG HP
      go_wp2_with fail
      refine C1.out.mono ?_
      rintro e w2 ⟨rfl, d2, g1, g2, g3⟩
      have N2 := NX.out d2 g1 g2
      have N2a := Lib.hid N2.1
      have N2b := Lib.hid N2.2.1
      have N2c := Lib.hid N2.2.2
      have S2 : Aside (SWK enc k w0 blk off d2 w2) := g3
      clear g1 g2 g3 N2 C1 NX HSK HAB hz hzd hlt has hgh
      go_wp2_with fail
      go_loopg [6] sz (fun gh vs wr => ∃ (bs : Nat) (dk : Array Nat), vs = .int .i64 bs ∧ 0 < bs ∧ bs ≤ 2000000000 ∧ sz - bs ≤ gh ∧ Hid (dk.size = sz) ∧ Hid (Seg key dk sz (cuts bs (2 * bs) 0)) ∧ Hid (PermIn 0 sz d dk) ∧ Aside (SWK enc k w0 blk off dk wr))
      case atStart => exact ⟨20, d2, rfl, by omega, by omega, by omega, N2c, N2a, N2b, S2⟩
      case round =>
        clear S2 N2a N2b N2c
        obtain ⟨bs, dk, rfl, hbs, hbs2, hgh, HSK, HSEG, HP, S1⟩ := hrel
        by_cases hlt : bs < sz
        · have hz : (bs : Int) < (sz : Int) := by omega
          obtain ⟨B, hB⟩ : ∃ B, B = 2 * bs := ⟨_, rfl⟩
          have eB : (2 : Int) * (bs : Int) = (B : Int) := by omega
          have eB2 : (bs : Int) * 2 = (B : Int) := by omega
          have wB : IntKind.i64.wrap (B : Int) = (B : Int) := by rw [IntKind.wrap_i64]; omega
          have HB := Lib.hid hB
          rw [← hB] at HSEG
          have hB1 : B ≤ 2000000000 ∧ bs < B ∧ sz - B < sz - bs := by omega
          have hbB : Hid (bs ∣ B) := Lib.hid ⟨2, by rw [HB.out, Nat.mul_comm]⟩
          clear hB
          go_wp2_with fail
          go_loopg [7, 8] sz (fun gh va vb wr => ∃ (a b : Nat) (dk : Array Nat), va = .int .i64 a ∧ vb = .int .i64 b ∧ Hid (b = a + B) ∧ Hid (B ∣ a) ∧ a ≤ sz ∧ sz - a ≤ gh ∧ Hid (dk.size = sz) ∧ Hid (Seg key dk sz (cuts bs B a)) ∧ Hid (PermIn 0 sz d dk) ∧ Aside (SWK enc k w0 blk off dk wr))
          case atStart => exact ⟨0, B, dk, rfl, rfl, Lib.hid (Nat.zero_add _).symm, Lib.hid (Nat.dvd_zero _), Nat.zero_le _, Nat.le_refl _, HSK, HSEG, HP, S1⟩
          case round =>
            clear S1 HSEG HP HSK
            obtain ⟨a, b, dk, rfl, rfl, HAB, HDA, has, hgh2, HSK, HSEG, HP, S1⟩ := hrel
            obtain ⟨m, hm⟩ : ∃ m, m = a + bs := ⟨_, rfl⟩
            have em : (a : Int) + (bs : Int) = (m : Int) := by omega
            have wm : IntKind.i64.wrap (m : Int) = (m : Int) := by rw [IntKind.wrap_i64]; omega
            have HM := Lib.hid hm
            have hb0 := HAB.out
            have hB0 := HB.out
            have hmb : a < m ∧ m < b ∧ b < 4000000000 := by omega
            clear hm
            have hdd : 2 * bs ∣ a := by have := HDA.out; rw [HB.out] at this; exact this
            have HDD := Lib.hid hdd
            clear hdd
            have HSEG2 : Hid (Seg key dk sz (cuts bs (2 * bs) a)) := Lib.hid (by have := HSEG.out; rw [HB.out] at this; exact this)
            by_cases hle : b ≤ sz
            · have hz2 : (b : Int) ≤ (sz : Int) := by omega
              have hzd : decide ((b : Int) ≤ (sz : Int)) = true := decide_eq_true hz2
              obtain ⟨c, hc⟩ : ∃ c, c = b + B := ⟨_, rfl⟩
              have ec : (b : Int) + (B : Int) = (c : Int) := by omega
              have wc1 : IntKind.i64.wrap (c : Int) = (c : Int) := by rw [IntKind.wrap_i64]; omega
              have HC2 := Lib.hid hc
              have hm2 : sz - b < sz - a := by omega
              have HDB : Hid (B ∣ b) := Lib.hid (by rw [HAB.out]; exact (Nat.dvd_add_iff_left (Nat.dvd_refl B)).1 HDA.out)
              have NX : Hid (∀ d2, PermIn a b dk d2 → Srt key d2 a b → Seg key d2 sz (cuts bs B b) ∧ PermIn 0 sz d d2 ∧ d2.size = sz) := Lib.hid (fun d2 g1 g2 => by
                have h1 := HAB.out
                rw [h1] at g1 g2 hle ⊢
                exact ⟨seg_next HSEG.out hbB.out HDA.out hle (Nat.le_of_eq HSK.out.symm) g1 g2, permIn_trans _ _ _ 0 sz HP.out (permIn_mono _ _ a (a + B) 0 sz (Nat.zero_le _) hle (Nat.le_of_eq HSK.out.symm) g1), by rw [g1.1]; exact HSK.out⟩)
              have T2 : Two key dk a m b := by rw [HM.out]; exact seg_two HSEG2.out HDD.out hle (by omega) (by omega) hbs
              have C1 := Lib.hid (CM.out a m b dk wr HSK.out hmb.1 hmb.2.1 hle T2 S1.out)
              clear hc hb0 hB0 T2 S1 HSEG HSEG2 HP
              go_wp2_with fail
              refine C1.out.mono ?_
              rintro e w2 ⟨rfl, d2, g1, g2, g3⟩
              have N2 := NX.out d2 g1 g2
              have N2a := Lib.hid N2.1
              have N2b := Lib.hid N2.2.1
              have N2c := Lib.hid N2.2.2
              have S2 : Aside (SWK enc k w0 blk off d2 w2) := g3
              clear g1 g2 g3 N2 C1
              go_wp2_with fail
              go_roundg (sz - b)
              case measure => omega
              case rel => exact ⟨b, c, d2, rfl, by first | rfl | go_num, HC2, HDB, hle, Nat.le_refl _, N2c, N2a, N2b, S2⟩
            · have hz2 : ¬ (b : Int) ≤ (sz : Int) := by omega
              have hzd : decide ((b : Int) ≤ (sz : Int)) = false := decide_eq_false hz2
              have NX : Hid (∀ d2, PermIn a sz dk d2 → Srt key d2 a sz → Seg key d2 sz (cuts B (2 * B) 0) ∧ PermIn 0 sz d d2 ∧ d2.size = sz) := Lib.hid (fun d2 g1 g2 => by
                exact ⟨seg_last HSEG.out hbB.out HDA.out (by omega) (Nat.le_of_eq HSK.out.symm) g1 g2 (2 * B), permIn_trans _ _ _ 0 sz HP.out (permIn_mono _ _ a sz 0 sz (Nat.zero_le _) (Nat.le_refl _) (Nat.le_of_eq HSK.out.symm) g1), by rw [g1.1]; exact HSK.out⟩)
              by_cases hmn : m < sz
              · have hz3 : (m : Int) < (sz : Int) := by omega
                have T2 : Two key dk a m sz := by rw [HM.out]; exact seg_two HSEG2.out HDD.out (Nat.le_refl _) (by omega) (by omega) hbs
                have C1 := Lib.hid (CM.out a m sz dk wr HSK.out hmb.1 hmn (Nat.le_refl _) T2 S1.out)
                clear hb0 hB0 T2 S1 HSEG HSEG2 HP
                go_wp2_with fail
                refine C1.out.mono ?_
                rintro e w2 ⟨rfl, d2, g1, g2, g3⟩
                have N2 := NX.out d2 g1 g2
                have N2a := Lib.hid N2.1
                have N2b := Lib.hid N2.2.1
                have N2c := Lib.hid N2.2.2
                have S2 : Aside (SWK enc k w0 blk off d2 w2) := g3
                clear g1 g2 g3 N2 C1
                go_wp2_with fail
                go_roundg (sz - B)
                case measure => omega
                case rel => exact ⟨B, d2, by first | rfl | go_num, by omega, hB1.1, Nat.le_refl _, N2c, N2a, N2b, S2⟩
              · have hz3 : ¬ (m : Int) < (sz : Int) := by omega
                have N2 := NX.out dk (permIn_refl _ _ _) (seg_rest HSEG2.out HDD.out (by omega))
                have N2a := Lib.hid N2.1
                have N2b := Lib.hid N2.2.1
                have N2c := Lib.hid N2.2.2
                clear N2 NX hb0 hB0 HSEG HSEG2 HP
                go_wp2_with fail
                go_roundg (sz - B)
                case measure => omega
                case rel => exact ⟨B, dk, by first | rfl | go_num, by omega, hB1.1, Nat.le_refl _, N2c, N2a, N2b, S1⟩
        · have hz : ¬ (bs : Int) < (sz : Int) := by omega
          have F := Lib.hid (seg_end HSEG.out (by omega))
          go_wp2_with fail
          go_end0
          exact ⟨rfl, dk, HP.out, F.out, S1.out⟩
set_option maxHeartbeats 16000000 in
set_option maxRecDepth 1000000 in
theorem sort_P (k : Nat) (aE : ∀ w, (isAgg 121).run Try.prog w = .ok true w) (zE : ∀ w, (Go.sizeOf 121).run Try.prog w = .ok k w) (enc : Nat → List Value) (key : Nat → Nat) (g : Nat) (cb : Array Value) (blk off cap sz : Nat) (d0 : Array Nat) (w0 : World) (eg : ∀ args w, (callFunc g args).run Try.prog w = .ok (.enter g args) w) (hcmp : 0 < sz → CmpLays Try.prog g cb enc k (cmpK key) blk off d0.size w0) (R : RowK enc k w0 blk off d0) (hs0 : d0.size = sz) (hsz : sz < 1000000000) (d : Array Nat) (w : World) (hs : d.size = sz) (hA : Asc d 0 sz) (S : SWK enc k w0 blk off d w) :
    Calls Try.prog 93 #[.slice (some ⟨blk, off, none⟩) sz cap, .func (.func g) #[] cb] w (MgP k enc key w0 blk off d 0 sz) := by
  have C := Lib.hid (stable_P k aE zE enc key g cb blk off cap sz d0 w0 eg hcmp R hs0 hsz d w hs hA S)
  clear S hs hA hcmp
  go_enter Try.func93, Try.ntmps93
  go_wp2_with fail
  refine C.out.mono ?_
  rintro e w2 ⟨rfl, d2, g1, g2, g3⟩
  have F : Hid (MgP k enc key w0 blk off d 0 sz (.returned (.tuple #[])) w2) := Lib.hid ⟨rfl, d2, g1, g2, g3⟩
  clear g1 g2 g3
  go_wp2_with fail
  go_end0
  exact F.out
end Go.Proofs.Ytjnehpkkkmicfaa.St
