/- Insertions by the library, at packages. -/
import Derived.Test.YtbegngilbngnoaaDoorStWP
import Derived.Deep.CutRange
import Derived.Shelf.SlSortCmp.QuietGrown
namespace Go.Proofs.YtbegngilbngnoaaDoor.St
open Go.Shelf Go.RowKit Go.Lib Go.Sort Go.Proofs

set_option maxHeartbeats 16000000 in
set_option maxRecDepth 1000000 in
theorem insert_P (k : Nat) (aE : ∀ w, (isAgg 89).run Tryd.prog w = .ok true w) (zE : ∀ w, (Go.sizeOf 89).run Tryd.prog w = .ok k w) (enc : Nat → List Value) (key : Nat → Nat) (g : Nat) (cb : Array Value) (blk off cap sz : Nat) (d0 : Array Nat) (w0 : World) (eg : ∀ args w, (callFunc g args).run Tryd.prog w = .ok (.enter g args) w) (hcmp : 0 < sz → CmpLays Tryd.prog g cb enc k (cmpK key) blk off d0.size w0) (R : RowK enc k w0 blk off d0) (hs0 : d0.size = sz) (hsz : sz < 1000000000) (a b : Nat) (d : Array Nat) (w : World) (hs : d.size = sz) (hab : a ≤ b) (hb : b ≤ sz) (S : SWK enc k w0 blk off d w) :
    Calls Tryd.prog 84 #[.slice (some ⟨blk, off, none⟩) sz cap, .int .i64 a, .int .i64 b, .func (.func g) #[] cb] w fun e w' => e = .returned (.tuple #[]) ∧ SWK enc k w0 blk off (Sort.insertionSort (ltOf (cmpK key)) d a b) w' := by
  have mixed : Tryd.prog.follows Departure.mixedOrders = true := by kernel_rfl
  have HC : Aside _ := hcmp
  clear hcmp
  have S0 : Aside (SWK enc k w0 blk off d w) := S
  have HS := Lib.hid hs
  clear S hs
  go_enter Tryd.func84, Tryd.ntmps84
  go_wp2_with fail
  go_loopg [8] (b - a) (fun g1 vi wr => ∃ (i : Nat) (dk : Array Nat), vi = .int .i64 i ∧ a < i ∧ i ≤ b + 1 ∧ b + 1 - i ≤ g1 + 1 ∧ dk.size = sz ∧ Hid (insOuter (ltOf (cmpK key)) a b i dk = insOuter (ltOf (cmpK key)) a b (a + 1) d) ∧ Aside (SWK enc k w0 blk off dk wr))
  case atStart => exact ⟨a + 1, d, by go_num, by omega, by omega, by omega, HS.out, rfl, S0⟩
  case round =>
    clear S0
    obtain ⟨i, dk, rfl, hai, hib, hg1, hsk, HO, S1⟩ := hrel
    by_cases hlt : i < b
    · have hltz : (i : Int) < (b : Int) := by omega
      go_wp2_with fail
      go_loopg [9] i (fun g2 vj wr2 => ∃ (j : Nat) (dj : Array Nat), vj = .int .i64 j ∧ a ≤ j ∧ j ≤ i ∧ j ≤ g2 ∧ dj.size = sz ∧ Hid (insInner (ltOf (cmpK key)) a j dj = insInner (ltOf (cmpK key)) a i dk) ∧ Aside (SWK enc k w0 blk off dj wr2))
      case atStart => exact ⟨i, dk, rfl, by omega, Nat.le_refl _, Nat.le_refl _, hsk, rfl, S1⟩
      case round =>
        clear S1
        obtain ⟨j, dj, rfl, haj, hji, hg2, hsj, HI, S1⟩ := hrel
        have OUT : Hid ((j ≤ a ∨ (ltOf (cmpK key)) dj[j]! dj[j - 1]! = false) → Hid (insOuter (ltOf (cmpK key)) a b (i + 1) dj = insOuter (ltOf (cmpK key)) a b (a + 1) d)) := Lib.hid (fun hs => by
          show _ = _
          rw [← HO.out, insOuter_go _ _ _ _ _ hlt, ← HI.out, insInner_stop _ _ _ _ hs])
        by_cases hja : a < j
        · obtain ⟨jp, rfl⟩ : ∃ q, j = q + 1 := ⟨j - 1, by omega⟩
          obtain ⟨jn, hjn⟩ : ∃ q, q = jp + 1 := ⟨_, rfl⟩
          rw [← hjn] at HI OUT hja hji hg2 ⊢
          have hzg : (a : Int) < (jn : Int) := by omega
          have hzd : decide ((a : Int) < (jn : Int)) = true := decide_eq_true hzg
          have hzn : decide (a < jn) = true := decide_eq_true hja
          have ej : (jn : Int) - 1 = (jp : Int) := by omega
          have wj : IntKind.i64.wrap (jp : Int) = (jp : Int) := by rw [IntKind.wrap_i64]; omega
          have p0 : (0 : Int) ≤ (jn : Int) := by omega
          have p1 : (jn : Int) < (sz : Int) := by omega
          have p2 : (0 : Int) ≤ (jp : Int) := by omega
          have p3 : (jp : Int) < (sz : Int) := by omega
          have HJN := Lib.hid hjn
          have hjj : jp < jn ∧ jn < sz ∧ a ≤ jp ∧ jp ≤ i := by omega
          have hj1 : jn - 1 = jp := by omega
          have HJ1 := Lib.hid hj1
          clear hjn hj1
          by_cases hv : cmpK key dj[jn]! dj[jp]! < 0
          · have HIN : Hid (insInner (ltOf (cmpK key)) a jp (swp dj jn jp) = insInner (ltOf (cmpK key)) a i dk) := Lib.hid (by
              have := insInner_go (ltOf (cmpK key)) a jn dj hja (by rw [HJ1.out]; exact decide_eq_true hv)
              rw [HJ1.out] at this
              rw [← HI.out, this])
            obtain ⟨x300, hx300⟩ : ∃ x, x = dj[jn]! := ⟨_, rfl⟩
            obtain ⟨y300, hy300⟩ : ∃ x, x = dj[jp]! := ⟨_, rfl⟩
            have la300 := S1.out.ld R (by omega) Tryd.prog jn (by omega)
            have lb300 := S1.out.ld R (by omega) Tryd.prog jp (by omega)
            rw [← hx300] at la300
            rw [← hy300] at lb300
            have hc300 := S1.out.cmp (HC.out (by omega)) (by omega) x300 y300
            have hd300 : decide (cmpK key x300 y300 < 0) = true := by rw [hx300, hy300]; exact decide_eq_true hv
            generalize cmpK key x300 y300 = cv300 at hc300 hd300
            clear hx300 hy300
            have na300 : (enc x300).length = k := R.hk _
            have nb300 : (enc y300).length = k := R.hk _
            go_wp2_with fail
            go_quiet_grown (first | (go_at_fn g; refine Calls.grown_of (hc300 _ _)))
            have S2 : Aside (SWK enc k w0 blk off dj (grow (wr.drewN nq) osq)) := S1.out.grown nq osq
            clear la300 lb300 hc300 S1
            generalize grow (wr.drewN nq) osq = w2 at S2 ⊢
            clear nq osq
            go_wp2_with fail
            have p0a301 : (0 : Int) ≤ (jn : Int) := by omega
            have p1a301 : (jn : Int) < (sz : Int) := by omega
            have p0b301 : (0 : Int) ≤ (jp : Int) := by omega
            have p1b301 : (jp : Int) < (sz : Int) := by omega
            have S3 : Aside (SWK enc k w0 blk off (swp dj jn jp) ((w2.drew.setCells blk (off + jn * k) (enc dj[jp]!)).setCells blk (off + jp * k) (enc dj[jn]!))) := S2.out.swapped R jn jp (by omega) (by omega)
            have la301 := S2.out.ld1 R (by omega) Tryd.prog jn (by omega)
            have lb301 := S2.out.ld1 R (by omega) Tryd.prog jp (by omega)
            have sa301 := S2.out.st1 R (by omega) Tryd.prog jn (by omega) dj[jp]!
            have sb301 := S2.out.st2 R (by omega) Tryd.prog jn jp (by omega) (by omega) dj[jp]! dj[jn]!
            have na301 : (enc dj[jn]!).length = k := R.hk _
            have nb301 : (enc dj[jp]!).length = k := R.hk _
            generalize enc dj[jn]! = cI301 at S3 la301 sb301 na301
            generalize enc dj[jp]! = cJ301 at S3 lb301 sa301 sb301 nb301
            clear S2
            go_wp2_with fail
            go_big_region_o
            clear la301 lb301 sa301 sb301
            generalize (w2.drew.setCells blk (off + jn * k) cJ301).setCells blk (off + jp * k) cI301 = w3 at S3 ⊢
            go_wp2_with fail
            go_roundg jp
            case measure => omega
            case rel => exact ⟨jp, swp dj jn jp, by first | rfl | go_num, hjj.2.2.1, hjj.2.2.2, Nat.le_refl _, by rw [size_swp]; exact hsj, HIN, S3⟩
          · have HOUT : Hid (insOuter (ltOf (cmpK key)) a b (i + 1) dj = insOuter (ltOf (cmpK key)) a b (a + 1) d) := OUT.out (.inr (by rw [HJ1.out]; exact decide_eq_false hv))
            obtain ⟨x302, hx302⟩ : ∃ x, x = dj[jn]! := ⟨_, rfl⟩
            obtain ⟨y302, hy302⟩ : ∃ x, x = dj[jp]! := ⟨_, rfl⟩
            have la302 := S1.out.ld R (by omega) Tryd.prog jn (by omega)
            have lb302 := S1.out.ld R (by omega) Tryd.prog jp (by omega)
            rw [← hx302] at la302
            rw [← hy302] at lb302
            have hc302 := S1.out.cmp (HC.out (by omega)) (by omega) x302 y302
            have hd302 : decide (cmpK key x302 y302 < 0) = false := by rw [hx302, hy302]; exact decide_eq_false hv
            generalize cmpK key x302 y302 = cv302 at hc302 hd302
            clear hx302 hy302
            have na302 : (enc x302).length = k := R.hk _
            have nb302 : (enc y302).length = k := R.hk _
            go_wp2_with fail
            go_quiet_grown (first | (go_at_fn g; refine Calls.grown_of (hc302 _ _)))
            have S2 : Aside (SWK enc k w0 blk off dj (grow (wr.drewN nq) osq)) := S1.out.grown nq osq
            clear la302 lb302 hc302 S1
            generalize grow (wr.drewN nq) osq = w2 at S2 ⊢
            clear nq osq
            go_wp2_with fail
            go_roundg (b - (i + 1))
            case measure => omega
            case rel => exact ⟨i + 1, dj, by go_num, by omega, by omega, by omega, hsj, HOUT, S2⟩
        · have hzg : ¬ (a : Int) < (j : Int) := by omega
          have hzd : decide ((a : Int) < (j : Int)) = false := decide_eq_false hzg
          have hzn : decide (a < j) = false := decide_eq_false hja
          have HOUT : Hid (insOuter (ltOf (cmpK key)) a b (i + 1) dj = insOuter (ltOf (cmpK key)) a b (a + 1) d) := OUT.out (.inl (by omega))
          go_wp2_with fail
          go_big_region_o
          have S2 : Aside (SWK enc k w0 blk off dj wr.drew) := S1.out.drew
          clear S1
          generalize wr.drew = w2 at S2 ⊢
          go_wp2_with fail
          go_roundg (b - (i + 1))
          case measure => omega
          case rel => exact ⟨i + 1, dj, by go_num, by omega, by omega, by omega, hsj, HOUT, S2⟩
    · have hltz : ¬ (i : Int) < (b : Int) := by omega
      have F : Hid (insOuter (ltOf (cmpK key)) a b (a + 1) d = dk) := Lib.hid (by rw [← HO.out, insOuter_stop _ _ _ _ _ hlt])
      go_wp2_with fail
      go_end0
      exact ⟨rfl, by unfold Sort.insertionSort; rw [F.out]; exact S1.out⟩
end Go.Proofs.YtbegngilbngnoaaDoor.St
