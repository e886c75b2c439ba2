/- The walks of package zeros' tally and Number. -/
import Derived.Test.YtbegngilbngnoaaDoorZepA
import Derived.BigRegion
import Derived.RangeFuncSeq
namespace Go.Proofs.YtbegngilbngnoaaDoor.Ze
open Go.RowKit Go.Lib Rw Ls Od _root_.Go.Proofs.YtbegngilbngnoaaDoor.Nm

/-- counted so far at most -/
def cl (n : Nat) : Nat := min n 65537
theorem nm_app (l : List Nat) (d : Nat) : nm (l ++ [d]) = nm l + (d + 1) * 2 ^ l.length := by
  induction l with
  | nil => simp [nm]
  | cons x l ih =>
    rw [List.cons_append, nm, ih, nm, List.length_cons, Nat.pow_succ, Nat.mul_add]
    have : 2 * ((d + 1) * 2 ^ l.length) = (d + 1) * (2 ^ l.length * 2) := by rw [Nat.mul_comm, Nat.mul_assoc]
    omega
theorem nm_ge (l : List Nat) : 2 ^ l.length ≤ nm l + 1 := by
  induction l with
  | nil => simp
  | cons x l ih => rw [nm, List.length_cons, Nat.pow_succ]; omega
theorem cl_worth (k : Nat) : cl (2 * cl (2 ^ k)) = cl (2 ^ (k + 1)) := by
  unfold cl
  rw [Nat.pow_succ]
  generalize 2 ^ k = y
  omega
theorem cl_num (l : List Nat) (d : Nat) (hd : d < 2) : cl (cl (nm l) + (d + 1) * cl (2 ^ l.length)) = cl (nm (l ++ [d])) := by
  rw [nm_app]
  have h := nm_ge l
  unfold cl
  generalize nm l = a at h ⊢
  generalize 2 ^ l.length = y at h ⊢
  rcases (show d = 0 ∨ d = 1 by omega) with rfl | rfl <;> omega
/-- the tally lies there -/
def Tal (w : World) (b x y : Nat) : Prop := w.heap[b]? = some (.cells #[.int .u64 (x : Nat), .int .u64 (y : Nat)] 49 (0, 0))
/-- nothing but block b has changed -/
def But (b : Nat) (w w' : World) : Prop := w.grownBy w' (some b)
theorem Tal.c0 {w : World} {b x y : Nat} (h : Tal w b x y) : w.cell? ⟨b, 0, none⟩ = some (.int .u64 (x : Nat)) := by simp [World.cell?, show w.heap[b]? = _ from h]
theorem Tal.c1 {w : World} {b x y : Nat} (h : Tal w b x y) : w.cell? ⟨b, 1, none⟩ = some (.int .u64 (y : Nat)) := by simp [World.cell?, show w.heap[b]? = _ from h]
theorem Tal.f {w : World} {b x y : Nat} (h : Tal w b x y) (k : Nat) : w.frozen? ⟨b, k, none⟩ = false := by simp [World.frozen?, show w.heap[b]? = _ from h]
theorem Tal.lt {w : World} {b x y : Nat} (h : Tal w b x y) : b < w.heap.size := (Array.getElem?_eq_some_iff.1 h).1
theorem Tal.set0 {w : World} {b x y : Nat} (h : Tal w b x y) (z : Nat) : Tal (w.setCell ⟨b, 0, none⟩ (.int .u64 (z : Nat))) b z y := by
  obtain ⟨hlt, hk⟩ := Array.getElem?_eq_some_iff.1 h
  show (w.heap.modify b _)[b]? = _
  rw [Array.getElem?_eq_getElem (by rw [Array.size_modify]; exact hlt), Array.getElem_modify_self, hk]
  rfl
theorem Tal.set1 {w : World} {b x y : Nat} (h : Tal w b x y) (z : Nat) : Tal (w.setCell ⟨b, 1, none⟩ (.int .u64 (z : Nat))) b x z := by
  obtain ⟨hlt, hk⟩ := Array.getElem?_eq_some_iff.1 h
  show (w.heap.modify b _)[b]? = _
  rw [Array.getElem?_eq_getElem (by rw [Array.size_modify]; exact hlt), Array.getElem_modify_self, hk]
  rfl
theorem But.refl (b : Nat) (w : World) : But b w w := ⟨rfl, rfl, rfl, Nat.le_refl _, fun _ _ _ => rfl⟩
theorem But.trans {b : Nat} {w1 w2 w3 : World} (h : But b w1 w2) (k : But b w2 w3) : But b w1 w3 := ⟨k.os.trans h.os, k.tape.trans h.tape, k.output.trans h.output, Nat.le_trans h.size k.size, fun i hi hne => (k.block i (Nat.lt_of_lt_of_le hi h.size) hne).trans (h.block i hi hne)⟩
theorem But.put (b : Nat) (w : World) (k : Nat) (v : Value) : But b w (w.setCell ⟨b, k, none⟩ v) := ⟨rfl, rfl, rfl, (KeepsWalks.setCell w _ v).size, fun i _ hne => Below.heap_setCell _ _ _ i (fun e => hne (by rw [e]))⟩
theorem But.drew {b : Nat} {w w' : World} (h : But b w w') : But b w w'.drew := ⟨h.os, h.tape, h.output, h.size, h.block⟩
set_option maxHeartbeats 4000000 in
set_option maxRecDepth 100000 in
theorem add_any (b x y d : Nat) (w : World) (hT : Tal w b x y) (hx : x ≤ 65537) (hy : y ≤ 65537) (hd : d ≤ 2) :
    Calls Tryd.prog 28 #[.pointer (some ⟨b, 0, none⟩), .int .u64 (d : Nat)] w fun e w' => e = .returned (.tuple #[]) ∧ Tal w' b (cl (x + d * y)) (cl (2 * y)) ∧ But b w w' := by
  obtain ⟨p, hp⟩ : ∃ p, p = d * y := ⟨_, rfl⟩
  have hp2 : p ≤ 2 * 65537 := by rw [hp]; exact Nat.mul_le_mul hd hy
  have e1 : (d : Int) * (y : Int) = (p : Int) := by rw [hp]; exact (Int.natCast_mul d y).symm
  have e2 : IntKind.u64.wrap (p : Int) = (p : Int) := IntWalk.u64_in _ (by omega)
  obtain ⟨s, hs⟩ : ∃ s, s = x + p := ⟨_, rfl⟩
  have e3 : (x : Int) + (p : Int) = (s : Int) := by omega
  have e4 : IntKind.u64.wrap (s : Int) = (s : Int) := IntWalk.u64_in _ (by omega)
  obtain ⟨y2, hy2⟩ : ∃ y2, y2 = 2 * y := ⟨_, rfl⟩
  have e5 : (2 : Int) * (y : Int) = (y2 : Int) := by omega
  have e6 : IntKind.u64.wrap (y2 : Int) = (y2 : Int) := IntWalk.u64_in _ (by omega)
  rw [← hp, ← hs, ← hy2]
  obtain ⟨m1, hm1⟩ : ∃ m, m = cl s := ⟨_, rfl⟩
  obtain ⟨m2, hm2⟩ : ∃ m, m = cl y2 := ⟨_, rfl⟩
  rw [← hm1, ← hm2]
  have HM1 : Hid (m1 = min s 65537) := Lib.hid hm1
  have HM2 : Hid (m2 = min y2 65537) := Lib.hid hm2
  have c0 := hT.c0; have c1 := hT.c1; have f0 := hT.f 0; have f1 := hT.f 1
  have HF : Hid (∀ a z : Int, a = (m1 : Int) → z = (m2 : Int) → Tal (((w.setCell ⟨b, 0, none⟩ (.int .u64 a)).setCell ⟨b, 1, none⟩ (.int .u64 z)).drew) b m1 m2 ∧ But b w (((w.setCell ⟨b, 0, none⟩ (.int .u64 a)).setCell ⟨b, 1, none⟩ (.int .u64 z)).drew)) := Lib.hid (fun a z ha hz => by
    subst ha hz
    exact ⟨(hT.set0 m1).set1 m2, ((But.put b w 0 _).trans (But.put b _ 1 _)).drew⟩)
  clear hp hs hy2 hm1 hm2 hT
  go_enter Tryd.func28, Tryd.ntmps28
  go_wp2_with fail
  go_region
  all_goals go_wp2_with fail
  all_goals go_end0
  all_goals exact ⟨rfl, HF.out _ _ (by have := HM1.out; omega) (by have := HM2.out; omega)⟩
theorem zero_tal : ∀ w, (zeroValue 49).run Tryd.prog w = .ok (.agg #[.int .u64 0, .int .u64 0]) w := fun w => by kernel_rfl
set_option maxHeartbeats 8000000 in
set_option maxRecDepth 100000 in
theorem pnumber_any (l : List Nat) (p : Option Addr) (c : Nat) (w : World) (hp : Rd w p (nums l)) (hl : l.length ≤ 17592186044416) :
    Calls Tryd.prog 16 #[.slice p l.length c] w fun e w' => e = .returned (.tuple #[.int .u64 ((numR l).1 : Nat), .int .i64 (numR l).2]) ∧ Below w.heap.size w w' := by
  by_cases h0 : l = []
  · have F : Hid (numR l = (0, 7)) := Lib.hid (if_pos h0)
    rw [F.out, h0]
    clear hl hp
    go_enter Tryd.func16, Tryd.ntmps16
    go_wp2_with fail
    refine bodyPost_ret (v := .tuple #[.int .u64 0, .int .i64 7]) (by simp [results, Tryd.results16, go_sem]) rfl ?_
    exact ⟨rfl, Below.refl _ _⟩
  have hlen : 0 < l.length := List.length_pos_iff.2 h0
  have H0 := Lib.hid h0
  obtain ⟨n, hn⟩ : ∃ n, n = l.length := ⟨_, rfl⟩
  rw [← hn] at hl hlen ⊢
  have HN := Lib.hid hn; have P := Lib.hid hp
  have u1 : ((n : Int) == 0) = false := by rw [beq_eq_false_iff_ne]; omega
  have u2 : (n == 0) = false := by rw [beq_eq_false_iff_ne]; omega
  obtain ⟨b, hb⟩ : ∃ b, b = w.heap.size := ⟨_, rfl⟩
  obtain ⟨w1, hw1⟩ : ∃ w1, w1 = w.alloc (.cells #[.int .u64 (0 : Int), .int .u64 (1 : Int)] 49) := ⟨_, rfl⟩
  have HT1 : Hid (Tal w1 b (cl (nm (l.take 0))) (cl (2 ^ 0))) := Lib.hid (by rw [hw1, hb]; exact World.alloc_heap_new w _)
  have HB1 : Hid (Below b w w1) := Lib.hid (by rw [hw1, hb]; exact (Below.refl _ _).alloc (Nat.le_refl _) _)
  have HBW := Lib.hid hb
  have zt := zero_tal
  clear hp h0 hn
  go_enter Tryd.func16, Tryd.ntmps16
  go_wp2_with fail
  rw [← hw1, ← hb]
  clear hw1 hb
  go_loopw [13] (fun i wr => ∃ k : Nat, k ≤ n ∧ i = .int .i64 k ∧ Hid (∀ j, j < k → l.getD j 0 < 2) ∧ Hid (Tal wr b (cl (nm (l.take k))) (cl (2 ^ k))) ∧ Hid (Below b w wr)) (fun i _ => n - (intOf i).toNat)
  case atStart => exact ⟨0, Nat.zero_le _, rfl, Lib.hid (fun j hj => by omega), HT1, HB1⟩
  case round =>
    obtain ⟨k, hk, rfl, HA, HT, HB⟩ := hrel
    have P2 : Hid (Rd wr p (nums l)) := Lib.hid (P.out.below (by rw [← HBW.out]; exact HB.out))
    by_cases hlt : k < n
    · obtain ⟨a, rfl, cy⟩ := rd_num P2.out k (by rw [← HN.out]; exact hlt)
      obtain ⟨y, hy⟩ : ∃ y, y = l.getD k 0 := ⟨_, rfl⟩
      rw [← hy] at cy
      have HY := Lib.hid hy
      have k0 : (0 : Int) ≤ (k : Int) := by omega
      have k1 : (k : Int) < (n : Int) := by omega
      clear hy
      by_cases hyb : y < 2
      · have HB2 : Hid (∀ j, j < k + 1 → l.getD j 0 < 2) := Lib.hid (fun j hj => by
          rcases Nat.lt_or_ge j k with h | h
          · exact HA.out j h
          · rw [show j = k by omega, ← HY.out]; exact hyb)
        have d1 : decide ((1 : Int) < (y : Int)) = false := decide_eq_false (by omega)
        have d2 : decide (1 < y) = false := decide_eq_false (by omega)
        obtain ⟨y1, hy1⟩ : ∃ y1, y1 = y + 1 := ⟨_, rfl⟩
        have z1 : (y : Int) + 1 = (y1 : Int) := by omega
        have z2 : IntKind.u64.wrap (y1 : Int) = (y1 : Int) := IntWalk.u64_in _ (by omega)
        have htk : l.take (k + 1) = l.take k ++ [y] := by
          have hkl : k < l.length := by rw [← HN.out]; exact hlt
          rw [List.take_succ_eq_append_getElem hkl, HY.out, gd hkl]
        have e1 : cl (cl (nm (l.take k)) + y1 * cl (2 ^ k)) = cl (nm (l.take (k + 1))) := by
          have := cl_num (l.take k) y hyb
          rw [List.length_take, Nat.min_eq_left (by rw [← HN.out]; omega)] at this
          rw [hy1, this, htk]
        have C := add_any b _ _ y1 wr HT.out (by unfold cl; omega) (by unfold cl; omega) (by omega)
        rw [e1, cl_worth] at C
        have C1 := Lib.hid C
        have HBL := Lib.hid HT.out.lt
        clear hyb hy1 htk e1 C
        go_wp2_with fail
        refine C1.out.mono ?_
        rintro e w2 ⟨rfl, h1, h2⟩
        have HT2 := Lib.hid h1
        have HB3 : Hid (Below b w w2) := Lib.hid (HB.out.trans ⟨h2.os, h2.tape, h2.output, h2.size, fun i hi => h2.block i (Nat.lt_trans hi HBL.out) (fun e => by injection e with e; omega)⟩)
        clear h1 h2 C1
        go_wp2_with fail
        go_roundw
        case rel => exact ⟨k + 1, by omega, by go_num, HB2, HT2, HB3⟩
        case measure => simp [intOf]; omega
      · have F : Hid (numR l = (0, 7)) := Lib.hid (by
          unfold numR
          rw [if_neg H0.out, if_neg]
          intro h
          have := all_two.1 h (l.getD k 0) (by rw [gd (by rw [← HN.out]; exact hlt)]; exact List.getElem_mem _)
          rw [← HY.out] at this; exact hyb this)
        have d1 : decide ((1 : Int) < (y : Int)) = true := decide_eq_true (by omega)
        have d2 : decide (1 < y) = true := decide_eq_true (by omega)
        clear hyb
        go_wp2_with fail
        refine bodyPost_ret (v := .tuple #[.int .u64 0, .int .i64 7]) (by simp [results, Tryd.results16, go_sem]) rfl ?_
        exact ⟨by rw [F.out]; rfl, by rw [← HBW.out]; exact HB.out⟩
    · obtain rfl : k = n := by omega
      have HALL : Hid (∀ d ∈ l, d < 2) := Lib.hid (fun d hd => by
        obtain ⟨j, hj, e⟩ := List.getElem_of_mem hd
        have := HA.out j (by rw [HN.out]; exact hj)
        rw [gd hj] at this; rw [← e]; exact this)
      have hT := HT.out
      rw [show l.take k = l from by rw [HN.out]; exact List.take_length] at hT
      have c0 := hT.c0
      have k1 : ¬ (k : Int) < (k : Int) := by omega
      by_cases hbg : 65536 < nm l
      · have F : Hid (numR l = (0, 8)) := Lib.hid (by unfold numR; rw [if_neg H0.out, if_pos (all_two.2 HALL.out), if_pos hbg])
        have e : cl (nm l) = 65537 := by unfold cl; omega
        rw [e] at c0
        clear hbg hT
        go_wp2_with fail
        refine bodyPost_ret (v := .tuple #[.int .u64 0, .int .i64 8]) (by simp [results, Tryd.results16, go_sem]) rfl ?_
        exact ⟨by rw [F.out]; rfl, by rw [← HBW.out]; exact HB.out⟩
      · have F : Hid (numR l = (nm l, 0)) := Lib.hid (by unfold numR; rw [if_neg H0.out, if_pos (all_two.2 HALL.out), if_neg hbg])
        obtain ⟨x, hx⟩ : ∃ x, x = nm l := ⟨_, rfl⟩
        have e : cl (nm l) = x := by unfold cl; omega
        rw [e] at c0
        rw [← hx] at F hbg
        have b1 : decide ((65536 : Int) < (x : Int)) = false := decide_eq_false (by omega)
        have b2 : decide (65536 < x) = false := decide_eq_false hbg
        clear hbg hT hx e
        go_wp2_with fail
        refine bodyPost_ret (v := .tuple #[.int .u64 (x : Nat), .int .i64 0]) (by simp [results, Tryd.results16, go_sem]) rfl ?_
        exact ⟨by rw [F.out], by rw [← HBW.out]; exact HB.out⟩
end Go.Proofs.YtbegngilbngnoaaDoor.Ze
