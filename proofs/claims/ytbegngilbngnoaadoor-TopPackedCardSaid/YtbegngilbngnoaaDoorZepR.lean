/- The library's TrimLeft of zeros, and Repeat of one byte. -/
import Derived.Test.YtbegngilbngnoaaDoorZepB
import Derived.Test.YtbegngilbngnoaaDoorShelf
import Derived.Lib.MakeNoZero
import Derived.Laws.CopyOwn
import Derived.Deep.DeepCutAuto
namespace Go.Proofs.YtbegngilbngnoaaDoor.Ze
open Go.RowKit Go.Lib Rw Ls Od _root_.Go.Proofs.YtbegngilbngnoaaDoor.Nm

/-- so many of one byte ahead, in a row of bytes -/
def Fil (w : World) (g b M : Nat) (c : Int) : Prop := ∃ cur : List Value, w.heap[g]? = some (.cells cur.toArray 5 (0, 0)) ∧ cur.length = M ∧ cur.take b = List.replicate b (.int .u8 c)
theorem Fil.cell {w : World} {g b M : Nat} {c : Int} (h : Fil w g b M c) (_hb : b ≤ M) {j : Nat} (hj : j < b) : w.cell? ⟨g, j, none⟩ = some (.int .u8 c) := by
  obtain ⟨cur, h1, h2, h3⟩ := h
  rw [cell_of_row w g j cur.toArray _ (0, 0) h1]
  have : (cur.take b)[j]? = some (.int .u8 c) := by rw [h3]; simp [hj]
  rw [List.getElem?_take_of_lt hj] at this
  simpa using this
theorem splice_fil {cur : List Value} {b m M : Nat} {c : Int} (hl : cur.length = M) (ht : cur.take b = List.replicate b (.int .u8 c)) (hm : b + m ≤ M) : (splice cur b (List.replicate m (.int .u8 c))).length = M ∧ (splice cur b (List.replicate m (.int .u8 c))).take (b + m) = List.replicate (b + m) (.int .u8 c) := by
  refine ⟨by rw [length_splice _ _ _ (by simp; omega), hl], ?_⟩
  unfold splice
  rw [ht, ← List.append_assoc, List.replicate_append_replicate, List.take_append_of_le_length (by simp)]
  simp
theorem rd_fil {w : World} {g k M : Nat} {c : Int} (h : Fil w g k M c) (hk : k ≤ M) : Rd w (some ⟨g, 0, none⟩) (List.replicate k (.int .u8 c)) := fun i hi => by
  have hi2 : i < k := by simpa using hi
  have e1 : ((⟨g, 0, none⟩ : Addr).add i) = ⟨g, i, none⟩ := by simp [Addr.add] <;> omega
  obtain ⟨cur, h1, -⟩ := id h
  refine ⟨⟨g, 0, none⟩, rfl, (Array.getElem?_eq_some_iff.1 h1).1, ?_⟩
  rw [e1, h.cell hk hi2]
  simp [List.getD_eq_getElem?_getD, hi2]
theorem info_u8' : (Tryd.prog.info? 5).map (·.size) = some 1 := by kernel_rfl
set_option maxHeartbeats 8000000 in
set_option maxRecDepth 100000 in
theorem repeat_any (b c1 k : Nat) (c : Int) (w : World) (hk : 1 ≤ k) (hk2 : k ≤ 65536) (hb0 : b < w.heap.size) (hc : w.cell? ⟨b, 0, none⟩ = some (.int .u8 c)) :
    Calls Tryd.prog 25 #[.slice (some ⟨b, 0, none⟩) 1 c1, .int .i64 (k : Nat)] w fun e w' => ∃ g, e = .returned (.slice (some ⟨g, 0, none⟩) k k) ∧ Rd w' (some ⟨g, 0, none⟩) (List.replicate k (.int .u8 c)) ∧ w.heap.size ≤ g ∧ Below w.heap.size w w' := by
  obtain ⟨cs, hrunM, hle, hmax⟩ := Lib.run_makeNoZero (P := Tryd.prog) w #[3] 43 5 Tryd.underlying43 k (by omega)
  have hcall : (callFunc 42 #[.int .i64 (k : Int)]).run Tryd.prog w = .ok (.value (.slice (some ⟨w.heap.size, 0, none⟩) k cs.size)) ((w.alloc (.cells cs 5)).drewN 2) := by
    rw [run_callFunc_extern Tryd.func42 (by kernel_rfl) (by kernel_rfl) (by kernel_rfl) (e := Extern.BytealgMakeNoZero.makeNoZero #[3] #[43]) (by kernel_rfl), hrunM]
    rfl
  have CM := Lib.hid (Tryd.bits_Mul 1 k (by omega) (by omega))
  have q1 : 1 * k / 18446744073709551616 = 0 := by rw [Nat.one_mul]; exact Nat.div_eq_of_lt (by omega)
  have q2 : 1 * k % 18446744073709551616 = k := by rw [Nat.one_mul]; exact Nat.mod_eq_of_lt (by omega)
  rw [q1, q2] at CM
  obtain ⟨g, hg⟩ : ∃ g, g = w.heap.size := ⟨_, rfl⟩
  obtain ⟨M, hM⟩ : ∃ M, M = cs.size := ⟨_, rfl⟩
  obtain ⟨w1, hw1⟩ : ∃ w1, w1 = (w.alloc (.cells cs 5)).drewN 2 := ⟨_, rfl⟩
  have hg1 : w1.heap[g]? = some (.cells cs.toList.toArray 5 (0, 0)) := by rw [hw1, hg]; exact World.alloc_heap_new w _
  have hb1 : Below g w w1 := by rw [hw1, hg]; exact below_drewN ((Below.refl _ w).alloc (Nat.le_refl _) _) 2
  have hc1 : w1.cell? ⟨b, 0, none⟩ = some (.int .u8 c) := by rw [hb1.cell (p := ⟨b, 0, none⟩) (by show b < g; rw [hg]; exact hb0)]; exact hc
  rw [← hw1, ← hg, ← hM] at hcall
  have HG1 := Lib.hid hg1; have HB1 := Lib.hid hb1; have HC1 := Lib.hid hc1; have HG := Lib.hid hg
  have HM : Hid (cs.toList.length = M) := Lib.hid (by rw [hM]; simp)
  have hkM : k ≤ M := by rw [hM]; exact hle
  have t1 : ((k : Int) == 0) = false := by rw [beq_eq_false_iff_ne]; omega
  have t2 : (k == 0) = false := by rw [beq_eq_false_iff_ne]; omega
  have t3 : decide ((k : Int) < 0) = false := decide_eq_false (by omega)
  have t4 : IntKind.u64.wrap (k : Int) = (k : Int) := IntWalk.u64_in _ (by omega)
  have t5 : IntKind.i64.wrap (k : Int) = (k : Int) := IntWalk.i64_in _ (by omega)
  have t6 : decide ((9223372036854775807 : Int) < (k : Int)) = false := decide_eq_false (by omega)
  have t7 : decide (9223372036854775807 < k) = false := decide_eq_false (by omega)
  have hsz8 := info_u8'
  clear hrunM hle hmax hg1 hb1 hc1 hw1 hM hc hg q1 q2
  go_enter Tryd.func25, Tryd.ntmps25
  go_wp2_with fail
  refine (CM.out _).mono ?_
  rintro e w2 ⟨rfl, hw2⟩
  replace hw2 := hw2.symm
  subst hw2
  go_upto_if 42 with fail
  go_cut [8] from 18 to 77 (fun v8 wx => ∃ cm : Nat, v8 = .int .i64 cm ∧ 1 ≤ cm ∧ cm ≤ 65536 ∧ Hid (wx = w))
  case first =>
    by_cases hk3 : 8192 < k
    · have d1 : decide ((8192 : Int) < (k : Int)) = true := decide_eq_true (by omega)
      have d2 : decide (8192 < k) = true := decide_eq_true hk3
      go_wp2_with fail
      go_meet
      case rel => exact ⟨8192, rfl, by omega, by omega, Lib.hid rfl⟩
    · have d1 : decide ((8192 : Int) < (k : Int)) = false := decide_eq_false (by omega)
      have d2 : decide (8192 < k) = false := decide_eq_false hk3
      go_wp2_with fail
      go_meet
      case rel => exact ⟨k, rfl, hk, hk2, Lib.hid rfl⟩
  case rest =>
    obtain ⟨cm, rfl, hcm, hcm2, hwc⟩ := hcut
    replace hwc := hwc.out.symm
    subst hwc
    have hml : (List.replicate 1 (Value.int .u8 c)).length = 1 := List.length_replicate
    go_wp2_with (refine wpList_copy_splice rfl (.tmp 58) (.tmp 59) 43 43 rfl 5 Tryd.underlying43 hsz8 (some ⟨g, 0, none⟩) (some ⟨b, 0, none⟩) k k 1 c1 rfl rfl g 0 cs.toList 5 HG1.out (List.replicate 1 (.int .u8 c)) ?d1 ?d2 ?d3 ?d4 g w HB1.out (Nat.le_refl _) ?_)
    case d1 => rw [hml]; simp only [Nat.min_def]; split <;> omega
    case d2 =>
      intro j v hj
      cases j with
      | zero => simp at hj; subst hj; exact HC1.out
      | succ j => simp at hj
    case d3 => rw [hml, HM.out]; omega
    case d4 => intro v hv; rw [(List.mem_replicate.1 hv).2]; rfl
    intro w3 hw3 b3
    have HF3 : Hid (Fil w3 g 1 M c) := Lib.hid (by
      have := splice_fil (b := 0) (m := 1) (M := M) (c := c) HM.out (by simp) (by omega)
      exact ⟨_, hw3.out, this.1, by simpa using this.2⟩)
    have B3 := Lib.hid b3
    clear hw3 b3 HG1 HB1 HC1 hml hcall
    go_wp2_with fail
    go_loopg [10, 11] k (fun gk v v11 wr => ∃ k1 : Nat, k1 ≤ k ∧ k - k1 ≤ gk ∧ v = .int .i64 k1 ∧ 1 ≤ k1 ∧ Hid (Fil wr g k1 M c) ∧ Hid (Below g w wr))
    case atStart => exact ⟨1, by omega, by omega, rfl, Nat.le_refl _, HF3, B3⟩
    case round =>
      clear HF3 B3
      obtain ⟨k1, hk1, hgk, rfl, h1, HF, HB⟩ := hrel
      by_cases hlt : k1 < k
      · obtain ⟨ch, hch⟩ : ∃ ch, ch = Nat.min k1 cm := ⟨_, rfl⟩
        have hc1 : ch ≤ k1 ∧ ch ≤ cm ∧ 1 ≤ ch := by rw [hch]; simp only [Nat.min_def]; split <;> omega
        obtain ⟨q, hq⟩ : ∃ q, q = Nat.min ch (k - k1) := ⟨_, rfl⟩
        have hq1 : q ≤ ch ∧ q ≤ k - k1 ∧ 1 ≤ q := by rw [hq]; simp only [Nat.min_def]; split <;> omega
        have HQ := Lib.hid hq
        obtain ⟨cur, hcur⟩ := HF.out
        have CU := Lib.hid hcur
        obtain ⟨r, hr⟩ : ∃ r, r = k1 + q := ⟨_, rfl⟩
        have sz : (k1 : Int) + (q : Int) = (r : Int) := by omega
        have wr1 : IntKind.i64.wrap (r : Int) = (r : Int) := IntWalk.i64_in _ (by omega)
        have HRR := Lib.hid hr
        have rn : r ≤ k ∧ 1 ≤ r ∧ k1 < r := by omega
        have s2 := Lib.hid (fun (j : Nat) (v : Value) (hj : (List.replicate q (Value.int .u8 c))[j]? = some v) => show wr.cell? ((⟨g, 0, none⟩ : Addr).add j) = some v from by
          have hjq : j < q := by
            rcases Nat.lt_or_ge j q with h | h
            · exact h
            · rw [List.getElem?_eq_none (by simpa using h)] at hj; cases hj
          have e1 : ((⟨g, 0, none⟩ : Addr).add j) = ⟨g, j, none⟩ := by simp [Addr.add] <;> omega
          rw [e1, HF.out.cell (by omega) (by omega)]
          simp [hjq] at hj
          rw [hj])
        have S3 := Lib.hid (show k1 + (List.replicate q (Value.int .u8 c)).length ≤ cur.length by rw [List.length_replicate, CU.out.2.1]; omega)
        have HSP : Hid (∀ W : World, W.heap[g]? = some (.cells (splice cur k1 (List.replicate q (.int .u8 c))).toArray 5 (0, 0)) → Fil W g r M c) := Lib.hid (fun W hW => by
          have := splice_fil (m := q) CU.out.2.1 CU.out.2.2 (by omega)
          exact ⟨_, hW, this.1, by rw [HRR.out]; exact this.2⟩)
        clear hr hq hcur
        have mn : min (k1 : Int) (cm : Int) = (ch : Int) := by rw [hch]; show min (k1 : Int) (cm : Int) = ((min k1 cm : Nat) : Int); omega
        have kz : (k1 : Int) < (k : Int) := by omega
        have hck : ch ≤ k := by omega
        have kn : ¬ k = k1 := by omega
        clear hch
        go_wp2_with fail
        go_region_law (refine step_copy_splice (by rfl) _ _ 43 43 (by rfl) 5 Tryd.underlying43 hsz8 (some ⟨g, k1, none⟩) (some ⟨g, 0, none⟩) (k - k1) (k - k1) ch k (by go_simp) (by go_simp) g k1 cur 5 (by exact CU.out.1) (List.replicate q (.int .u8 c)) (by rw [List.length_replicate]; exact HQ.out) (by intro _; exact ⟨rfl, _, rfl, s2.out⟩) S3.out (fun v hv => by rw [(List.mem_replicate.1 hv).2]; rfl) g w (by exact Below.drew HB.out) (Nat.le_refl _) ?_; intro w5 hw5 b5; have B5 := Lib.hid b5; have F5 : Hid (Fil w5 g r M c) := Lib.hid (HSP.out w5 hw5.out); clear hw5 b5; simp only [List.length_replicate])
        all_goals
          go_wp2_with fail
          go_roundg (k - r)
          case measure => omega
          case rel => exact ⟨r, by omega, Nat.le_refl _, by first | rfl | go_num, by omega, F5, B5⟩
      · obtain rfl : k1 = k := by omega
        have kz : ¬ (k1 : Int) < (k1 : Int) := by omega
        go_wp2_with fail
        go_ret
        refine ⟨g, rfl, rd_fil HF.out hkM, by rw [HG.out]; exact Nat.le_refl _, by rw [← HG.out]; exact HB.out⟩
end Go.Proofs.YtbegngilbngnoaaDoor.Ze
