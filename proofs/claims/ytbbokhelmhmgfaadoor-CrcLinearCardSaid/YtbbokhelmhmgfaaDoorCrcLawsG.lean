/- The walk of the law CrcLinear. -/
import Derived.Test.YtbbokhelmhmgfaaDoorCrcLawsF
import Derived.RegionTactic
import Derived.ChangeAlike
namespace Go.Proofs.YtbbokhelmhmgfaaDoor.Crc
open Go.RowKit

def zip3 : List UInt8 → List UInt8 → List UInt8 → List UInt8
  | a :: xs, b :: ys, c :: zs => (a ^^^ (b ^^^ c)) :: zip3 xs ys zs
  | _, _, _ => []
theorem zip3_length : ∀ (a b c : List UInt8), a.length = b.length → b.length = c.length → (zip3 a b c).length = a.length
  | [], _, _, _, _ => rfl
  | _ :: xs, b :: ys, c :: zs, h, k => by simp only [zip3, List.length_cons]; rw [zip3_length xs ys zs (by simpa using h) (by simpa using k)]
  | _ :: _, [], _, h, _ => by simp at h
  | _ :: _, _ :: _, [], _, k => by simp at k
theorem zip3_get : ∀ (a b c : List UInt8) (k : Nat), a.length = b.length → b.length = c.length → k < a.length → (zip3 a b c).getD k 0 = a.getD k 0 ^^^ (b.getD k 0 ^^^ c.getD k 0)
  | [], _, _, k, _, _, h => by simp at h
  | a :: xs, b :: ys, c :: zs, 0, _, _, _ => by simp [zip3]
  | a :: xs, b :: ys, c :: zs, k + 1, h1, h2, h3 => by
    have := zip3_get xs ys zs k (by simpa using h1) (by simpa using h2) (by simpa using h3)
    simpa [zip3] using this
  | _ :: _, [], _, _, h, _, _ => by simp at h
  | _ :: _, _ :: _, [], _, _, h, _ => by simp at h
theorem run_zip3 : ∀ (a b c : List UInt8) (r s t : Nat), a.length = b.length → b.length = c.length → run (r ^^^ (s ^^^ t)) (zip3 a b c) = run r a ^^^ (run s b ^^^ run t c)
  | [], b, c, r, s, t, h, k => by
    have hb : b = [] := by simpa using h.symm
    subst hb
    have hc : c = [] := by simpa using k.symm
    subst hc
    rfl
  | a :: xs, b :: ys, c :: zs, r, s, t, h, k => by
    have ih := run_zip3 xs ys zs (stepP r a.toNat) (stepP s b.toNat) (stepP t c.toNat) (by simpa using h) (by simpa using k)
    have e1 : stepP (r ^^^ (s ^^^ t)) (a ^^^ (b ^^^ c)).toNat = stepP r a.toNat ^^^ (stepP s b.toNat ^^^ stepP t c.toNat) := by
      rw [UInt8.toNat_xor, UInt8.toNat_xor, stepP_is, stepP_is, stepP_is, stepP_is, ← fn_xor, ← fn_xor, xc, xc s t]
    show run (stepP (r ^^^ (s ^^^ t)) (a ^^^ (b ^^^ c)).toNat) (zip3 xs ys zs) = run (stepP r a.toNat) xs ^^^ (run (stepP s b.toNat) ys ^^^ run (stepP t c.toNat) zs)
    rw [e1, ih]
  | _ :: _, [], _, _, _, _, h, _ => by simp at h
  | _ :: _, _ :: _, [], _, _, _, _, k => by simp at k
theorem linear (a b c : List UInt8) (h : a.length = b.length) (k : b.length = c.length) : (more 0 a ^^^ more 0 b) ^^^ more 0 c = more 0 (zip3 a b c) := by
  have hz := run_zip3 a b c (neg 0) (neg 0) (neg 0) h k
  have e0 : neg 0 ^^^ (neg 0 ^^^ neg 0) = neg 0 := by rw [Nat.xor_self, Nat.xor_zero]
  rw [e0] at hz
  unfold more
  rw [hz]
  have ha := run_lt a (neg_lt 0)
  have hb := run_lt b (neg_lt 0)
  have hc := run_lt c (neg_lt 0)
  generalize run (neg 0) a = x at *
  generalize run (neg 0) b = y at *
  generalize run (neg 0) c = z at *
  rw [neg_xor ha, neg_xor hb, neg_xor hc, neg_xor (xor_lt ha (xor_lt hb hc))]
  generalize (4294967295 : Nat) = F
  rw [xc x F y F, Nat.xor_self, Nat.xor_zero, ← Nat.xor_assoc, ← Nat.xor_assoc]
theorem mid_get (z a : List UInt8) (k : Nat) (hz : z.length = a.length) (h : k < a.length) : (z.take k ++ a.drop k).getD k 0 = a.getD k 0 := by
  have hl : (z.take k).length = k := by rw [List.length_take]; omega
  rw [List.getD_eq_getElem?_getD, List.getElem?_append_right (by omega), hl, List.getElem?_drop, ← List.getD_eq_getElem?_getD]
  simp
theorem mid_set (z a : List UInt8) (k : Nat) (hz : z.length = a.length) (h : k < a.length) : (z.take k ++ a.drop k).set k (z.getD k 0) = z.take (k + 1) ++ a.drop (k + 1) := by
  have hl : (z.take k).length = k := by rw [List.length_take]; omega
  rw [List.set_append_right _ _ (by omega), hl, Nat.sub_self, List.drop_eq_getElem_cons h, List.set_cons_zero, List.take_succ_eq_append_getElem (by omega), List.append_assoc]
  simp [List.getD_eq_getElem?_getD, List.getElem?_eq_getElem (show k < z.length by omega)]
theorem mid_length (z a : List UInt8) (k : Nat) (hz : z.length = a.length) (h : k ≤ a.length) : (z.take k ++ a.drop k).length = a.length := by
  rw [List.length_append, List.length_take, List.length_drop]; omega
theorem x8 (a b : UInt8) : bits .xor .u8 (a.toNat : Int) (b.toNat : Int) = ((a ^^^ b).toNat : Int) := by
  rw [u8_xor_nat _ _ a.toNat_lt b.toNat_lt, UInt8.toNat_xor]

set_option maxHeartbeats 20000000 in
theorem linear_law (a b c : ByteArray) (w : World) (ha : a.size ≤ maxLen) (hb : b.size ≤ maxLen) (hc : c.size ≤ maxLen) (ht : TabOk w) :
    Calls Tryd.prog 8 #[.string a, .string b, .string c] w fun e w' => e = .returned (.bool true) ∧ Below w.heap.size w w' := by
  have ha' : a.size ≤ maxLen := ha
  unfold maxLen at ha'
  by_cases h1 : a.size = b.size
  case neg =>
    have e1 : ((a.size : Int) != (b.size : Int)) = true := by rw [bne_iff_ne]; omega
    go_enter Tryd.func8, Tryd.ntmps8
    go_wp2_with fail
    refine (lives_any _ ht).mono ?_
    rintro e w1 ⟨rfl, b1⟩
    go_wp2_with fail
    go_ret
    exact ⟨rfl, b1⟩
  by_cases h2 : b.size = c.size
  case neg =>
    have e1 : ((a.size : Int) != (b.size : Int)) = false := by rw [bne_eq_false_iff_eq]; omega
    have e2 : ((b.size : Int) != (c.size : Int)) = true := by rw [bne_iff_ne]; omega
    clear h1
    go_enter Tryd.func8, Tryd.ntmps8
    go_wp2_with fail
    refine (lives_any _ ht).mono ?_
    rintro e w1 ⟨rfl, b1⟩
    go_wp2_with fail
    go_ret
    exact ⟨rfl, b1⟩
  have e1 : ((a.size : Int) != (b.size : Int)) = false := by rw [bne_eq_false_iff_eq]; omega
  have e2 : ((b.size : Int) != (c.size : Int)) = false := by rw [bne_eq_false_iff_eq]; omega
  have l1 : a.size ≤ b.size := by omega
  have l2 : a.size ≤ c.size := by omega
  obtain ⟨z, hz⟩ : ∃ z, z = zip3 (bytes a) (bytes b) (bytes c) := ⟨_, rfl⟩
  have zl : z.length = (bytes a).length := by rw [hz]; exact zip3_length _ _ _ (by rw [bytes_len, bytes_len]; exact h1) (by rw [bytes_len, bytes_len]; exact h2)
  have zg : ∀ k, k < a.size → z.getD k 0 = (bytes a).getD k 0 ^^^ ((bytes b).getD k 0 ^^^ (bytes c).getD k 0) := fun k hk => by
    rw [hz]; exact zip3_get _ _ _ k (by rw [bytes_len, bytes_len]; exact h1) (by rw [bytes_len, bytes_len]; exact h2) (by rw [bytes_len]; exact hk)
  have zs : (sums [a] ^^^ sums [b]) ^^^ sums [c] = more 0 z := by
    rw [sums1, sums1, sums1, hz]; exact linear _ _ _ (by rw [bytes_len, bytes_len]; exact h1) (by rw [bytes_len, bytes_len]; exact h2)
  have al : (bytes a).length = a.size := bytes_len a
  have ZL := Lib.hid zl; have ZG := Lib.hid zg; have ZS := Lib.hid zs; have AL := Lib.hid al
  clear zl zg zs al hz h1 h2
  go_enter Tryd.func8, Tryd.ntmps8
  go_wp2_with fail
  refine (lives_any _ ht).mono ?_
  rintro e w1 ⟨rfl, b1⟩
  have t1 := ht.below b1
  have hmk := Row.run_make w1 a
  have r2 := Row.madeOf_bytes w1 a
  have b2 := Row.madeOf_below w1 a
  generalize hw2 : Row.madeOf w1 a = w2 at *
  clear hw2
  have B1 := Lib.hid b1; have R2 := Lib.hid r2; have B2 := Lib.hid b2; have T1 := Lib.hid t1
  clear b1 r2 b2 t1
  go_wp2_with fail
  go_loopw [27, 8] (fun i _ wr => ∃ k : Nat, k ≤ a.size ∧ i = .int .i64 k ∧ Row.Bytes wr w1.heap.size (z.take k ++ (bytes a).drop k) ∧ Below w1.heap.size w1 wr) (fun i _ _ => a.size - (intOf i).toNat)
  case atStart => exact ⟨0, by omega, rfl, by have h := R2.out; simpa [bytes] using h, B2.out⟩
  case round =>
    obtain ⟨k, hk, rfl, hrow, hbl⟩ := hrel
    have ROW := Lib.hid hrow
    have BL := Lib.hid hbl
    have hll : (z.take k ++ (bytes a).drop k).length = a.size := by rw [mid_length _ _ _ ZL.out (by rw [AL.out]; omega), AL.out]
    by_cases hlt : k < a.size
    · have hkb : k < b.size := by omega
      have hkc : k < c.size := by omega
      have hcell := hrow.cell k (by omega)
      have hfree := hrow.free k (by omega)
      rw [mid_get _ _ _ ZL.out (by rw [AL.out]; exact hlt)] at hcell
      have hset := mid_set z (bytes a) k ZL.out (by rw [AL.out]; exact hlt)
      rw [ZG.out k hlt, getD_bytes b k hkb, getD_bytes c k hkc] at hset
      have x1 := x8 b[k] c[k]
      obtain ⟨y1, hy1⟩ : ∃ y1, y1 = b[k] ^^^ c[k] := ⟨_, rfl⟩
      rw [← hy1] at x1 hset
      obtain ⟨ak, hak⟩ : ∃ ak, ak = (bytes a).getD k 0 := ⟨_, rfl⟩
      rw [← hak] at hcell hset
      have x2 := x8 ak y1
      obtain ⟨y, hy⟩ : ∃ y, y = ak ^^^ y1 := ⟨_, rfl⟩
      rw [← hy] at x2 hset
      have HS := Lib.hid hset
      have i1 : (k : Int) < (a.size : Int) := by omega
      have i2 : (k : Int) < (b.size : Int) := by omega
      have i3 : (k : Int) < (c.size : Int) := by omega
      have i0 : (0 : Int) ≤ (k : Int) := by omega
      clear hrow hbl hll hset hy hak hy1
      go_wp2_with fail
      go_region
      go_wp2_with fail
      go_roundw
      case rel => exact ⟨k + 1, by omega, by go_num, by rw [← HS.out]; exact (ROW.out.set k (by rw [mid_length _ _ _ ZL.out (by rw [AL.out]; omega), AL.out]; exact hlt) y).drew, (BL.out.setCell (Nat.le_refl _) _).drew⟩
      case measure => simp [intOf]; omega
    · obtain rfl : k = a.size := by omega
      have hfin : z.take a.size ++ (bytes a).drop a.size = z := by
        rw [List.take_of_length_le (by rw [ZL.out, AL.out]; exact Nat.le_refl _), List.drop_eq_nil_of_le (by rw [AL.out]; exact Nat.le_refl _), List.append_nil]
      rw [hfin] at hrow
      have zl2 : z.length = a.size := by rw [ZL.out, AL.out]
      have hbk := fun W (h : Row.Bytes W w1.heap.size z) => Row.run_back h (grownCap w1 a.size 0 5)
      rw [zl2] at hbk
      obtain ⟨D, hD⟩ : ∃ D : ByteArray, D = ⟨z.toArray⟩ := ⟨_, rfl⟩
      rw [← hD] at hbk
      have hDm : D.size ≤ maxLen := by rw [hD, ← bytes_len, bytes_mk, zl2]; exact ha
      have hs : (sums [a] ^^^ sums [b]) ^^^ sums [c] = sums [D] := by rw [ZS.out, sums1, hD, bytes_mk]
      have hx1 : bits .xor .u32 ((sums [a] : Nat) : Int) ((sums [b] : Nat) : Int) = ((sums [a] ^^^ sums [b] : Nat) : Int) := x32 (sums_lt _) (sums_lt _)
      have hx2 : bits .xor .u32 ((sums [a] ^^^ sums [b] : Nat) : Int) ((sums [c] : Nat) : Int) = ((sums [D] : Nat) : Int) := by rw [← hs]; exact x32 (xor_lt (sums_lt _) (sums_lt _)) (sums_lt _)
      generalize sums [a] ^^^ sums [b] = ab at hx1 hx2 hs
      have tr := T1.out.below hbl
      have b3 := B1.out.trans (hbl.mono B1.out.size)
      have B3 := Lib.hid b3
      have hz := tr.pos
      have hlt1 := hrow.lt
      have hA : ∀ (W : World) (o : Obj), Row.Bytes W w1.heap.size z → Row.Bytes (W.alloc o) w1.heap.size z := fun W o h => h.alloc o
      have hE : ∀ (W : World), Row.Bytes W w1.heap.size z → Row.Bytes W.drew w1.heap.size z := fun W h => h.drew
      obtain ⟨BB, hBB⟩ : ∃ BB : World → Prop, BB = fun W => Row.Bytes W w1.heap.size z := ⟨_, rfl⟩
      have hbk' : ∀ W, BB W → _ := fun W h => hbk W (by rw [hBB] at h; exact h)
      have hA' : ∀ (W : World) (o : Obj), BB W → BB (W.alloc o) := by rw [hBB]; exact hA
      have hE' : ∀ (W : World), BB W → BB W.drew := by rw [hBB]; exact hE
      have hrow' : BB wr := by rw [hBB]; exact hrow
      have HB := Lib.hid hbk'; have HA := Lib.hid hA'; have HE := Lib.hid hE'; have HR := Lib.hid hrow'
      clear hBB hA hE hbk' hA' hE' hrow'
      clear hrow hbk hbl ROW BL R2 B2 T1 B1 hfin zl2 ZL ZG ZS AL hs hD b3 hmk hk e1 e2
      go_wp2_with fail
      go_region_held3 (fun W => BB W ∧ (convert 35 9 (.slice (some ⟨w1.heap.size, 0, none⟩) a.size (grownCap w1 a.size 0 5))).run Tryd.prog W = .ok (.string D) W) (refine ⟨?_, HB.out _ ?_⟩ <;> repeat (first | exact HR.out | apply HA.out | apply HE.out)) (first | (go_at_call 10; ((with_reducible refine (sum1_any a _ _ ha ?_ ?_).mono ?_)); (focus (simp [go_sem]; done)); (repeat (first | exact tr | apply TabOk.drew | apply TabOk.alloc)); rintro e w' ⟨rfl, rfl⟩) | (go_at_call 10; ((with_reducible refine (sum1_any b _ _ hb ?_ ?_).mono ?_)); (focus (simp [go_sem]; done)); (repeat (first | exact tr | apply TabOk.drew | apply TabOk.alloc)); rintro e w' ⟨rfl, rfl⟩) | (go_at_call 10; ((with_reducible refine (sum1_any c _ _ hc ?_ ?_).mono ?_)); (focus (simp [go_sem]; done)); (repeat (first | exact tr | apply TabOk.drew | apply TabOk.alloc)); rintro e w' ⟨rfl, rfl⟩) | (go_at_call 10; ((with_reducible refine (sum1_any D _ _ hDm ?_ ?_).mono ?_)); (focus (simp [go_sem]; done)); (repeat (first | exact tr | apply TabOk.drew | apply TabOk.alloc)); rintro e w' ⟨rfl, rfl⟩))
      all_goals go_wp2_with fail
      all_goals go_ret
      all_goals refine ⟨rfl, B3.out.trans (Below.mono (B := wr.heap.size) ?_ B3.out.size)⟩
      all_goals repeat (first | exact Below.refl _ _ | apply Below.drew | (refine Below.alloc ?_ (by simp; try omega) _))
end Go.Proofs.YtbbokhelmhmgfaaDoor.Crc
