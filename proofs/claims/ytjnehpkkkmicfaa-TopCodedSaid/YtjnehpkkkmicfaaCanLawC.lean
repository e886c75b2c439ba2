/- The law CanonBack. -/
import Derived.Test.YtjnehpkkkmicfaaBnM
import Derived.Test.YtjnehpkkkmicfaaBnC
namespace Go.Proofs.Ytjnehpkkkmicfaa.Cn
open Go.RowKit Go.Lib Rw Ls Od _root_.Go.Proofs.Ytjnehpkkkmicfaa.Nm Pk Bt

theorem errT_down {ls : List Int} {X : List Bool} {sy : List Nat} {n : Nat} (h : errT ls X sy n = 0) {k : Nat} (hk : k ≤ n) : errT ls X sy k = 0 := Decidable.byContradiction fun h2 => by
  have := errT_stay h2 (n - k)
  rw [show k + (n - k) = n by omega, h] at this
  exact h2 this.symm
theorem step_of {ls : List Int} {X : List Bool} {sy : List Nat} {n k : Nat} (h : errT ls X sy n = 0) (hk : k < n) : stepE ls (bitsT ls X sy k).length (sy.getD k 0) = 0 := by
  rw [← errT_next (errT_down h (Nat.le_of_lt hk))]; exact errT_down h hk
theorem step_ok {ls : List Int} {N x : Nat} (h : stepE ls N x = 0) : x < ls.length ∧ ls.getD x 0 ≠ 0 ∧ N + ln ls x ≤ 1048576 := by
  unfold stepE at h
  split at h
  · cases h
  · split at h
    · cases h
    · split at h
      · cases h
      · omega
theorem bitsT_rest (ls : List Int) (X : List Bool) (sy : List Nat) : ∀ (d k : Nat), k + d ≤ sy.length → ∃ R, bitsT ls X sy (k + d) = bitsT ls X sy k ++ R
  | 0, k, _ => ⟨[], by simp⟩
  | d + 1, k, h => by
    obtain ⟨R, hR⟩ := bitsT_rest ls X sy d k (by omega)
    exact ⟨R ++ nbits (code ls (sy.getD (k + d) 0)) (ln ls (sy.getD (k + d) 0)), by rw [← Nat.add_assoc, bitsT_succ ls X sy (by omega), hR, List.append_assoc]⟩
/-- each symbol that was written is read -/
theorem back_at {ls : List Int} {X : List Bool} {sy : List Nat} (hr : Rt ls) (h : errT ls X sy sy.length = 0) {k : Nat} (hk : k < sy.length) :
    rdGo ls (bitsT ls X sy sy.length) (bitsT ls X sy k).length 17 0 0 = (sy.getD k 0, (bitsT ls X sy (k + 1)).length, 0) ∧ sy.getD k 0 < ls.length ∧ (((bitsT ls X sy (k + 1)).length : Nat) : Int) - ((bitsT ls X sy k).length : Nat) = ls.getD (sy.getD k 0) 0 ∧ (bitsT ls X sy (k + 1)).length ≤ (bitsT ls X sy sy.length).length := by
  obtain ⟨h1, h2, h3⟩ := step_ok (step_of h hk)
  obtain ⟨x, hx⟩ : ∃ x, x = sy.getD k 0 := ⟨_, rfl⟩
  have hs := bitsT_succ ls X sy hk
  rw [← hx] at h1 h2 h3 hs ⊢
  have hz := hr.all x h1
  have h0 : 0 < ln ls x := by unfold ln; omega
  have h15 := hr.ln15 h1
  obtain ⟨R, hR⟩ := bitsT_rest ls X sy (sy.length - (k + 1)) (k + 1) (by omega)
  rw [show k + 1 + (sy.length - (k + 1)) = sy.length by omega, hs] at hR
  have hl : (bitsT ls X sy (k + 1)).length = (bitsT ls X sy k).length + ln ls x := by rw [hs, List.length_append, nbits_length]
  have hb := rd_back hr (X := bitsT ls X sy sy.length) (p := (bitsT ls X sy k).length) h1 h0 (fun u hu => by
    rw [hR, List.append_assoc, List.getD_eq_getElem?_getD, List.getElem?_append_right (by omega), Nat.add_sub_cancel_left, List.getElem?_append_left (by rw [nbits_length]; exact hu), ← List.getD_eq_getElem?_getD, nbits_getD, if_pos hu]) (by rw [hR, List.length_append, ← hs, hl]; omega) 17 0 (Nat.zero_le _) (by omega)
  rw [Nat.sub_zero, Nat.div_eq_of_lt (code_lt h1 h0 h15 hr.room)] at hb
  refine ⟨by rw [hb, hl], h1, ?_, ?_⟩
  · rw [hl]; unfold ln; omega
  · rw [hR, List.length_append, ← hs]; omega
theorem rdR_at {ls : List Int} {Y : List Bool} {a : Nat} {r : Nat × Nat × Int} (hok : okC ls) (hY : Y.length ≤ 1048576) (ha : a ≤ Y.length) (h : rdGo ls Y a 17 0 0 = r) : rdR (packS Y) (Y.length : Nat) (a : Int) ls = (r.1, (r.2.1 : Int), r.2.2) := by
  unfold rdR
  rw [if_pos (packS_chk hY), if_pos hok, if_neg (by omega)]
  simp only [Int.toNat_natCast, packS_bits, h]
theorem wrR_cases (s : ByteArray) (n : Int) (ls : List Int) (sy : List Nat) : (∃ S N E, wrR s n ls sy = (S, N, E) ∧ E ≠ 0) ∨ (chk s n = 0 ∧ okC ls ∧ errT ls (bl (Bt.bytes s) n.toNat) sy sy.length = 0 ∧ wrR s n ls sy = (packS (bitsT ls (bl (Bt.bytes s) n.toNat) sy sy.length), (((bitsT ls (bl (Bt.bytes s) n.toNat) sy sy.length).length : Nat) : Int), 0)) := by
  unfold wrR
  split
  · rename_i h1
    split
    · rename_i h2
      split
      · rename_i h3
        exact .inr ⟨h1, h2, h3, rfl⟩
      · rename_i h3
        exact .inl ⟨_, _, _, rfl, h3⟩
    · exact .inl ⟨_, _, _, rfl, by decide⟩
  · exact .inl ⟨_, _, _, rfl, by decide⟩
set_option maxHeartbeats 8000000 in
set_option maxRecDepth 100000 in
theorem back_law (s : ByteArray) (n : Int) (ls : List Int) (sy : List Nat) (p q : Option Addr) (c d : Nat) (w : World) (hs : s.size ≤ maxLen) (hp : Rd w p (zs ls)) (hq : Rd w q (nums sy)) (hl : ls.length ≤ 17592186044416) (hm : sy.length ≤ 17592186044416) (hsb : ∀ x ∈ sy, x < 18446744073709551616) :
    Calls Try.prog 5 #[.agg #[.string s, .int .i64 n], .slice p ls.length c, .slice q sy.length d] w fun e w' => e = .returned (.bool true) ∧ Below w.heap.size w w' := by
  have CL := Lib.hid (fun W => lives_any W)
  have CA0 : ∀ W, Rd W p (zs ls) → Rd W q (nums sy) → Calls Try.prog 19 #[.agg #[.string s, .int .i64 n], .slice p ls.length c, .slice q sy.length d] W (WrP W (wrR s n ls sy)) := fun W h1 h2 => pwrite_any s n ls sy p q c d W hs h1 h2 hl hm hsb
  have BX : Hid (Box (w.alloc (.cells #[.string s, .int .i64 n] 35)) w.heap.size s n) := Lib.hid (Box.new w s n)
  have P := Lib.hid hp; have Q := Lib.hid hq; have HSB := Lib.hid hsb
  have CR0 : ∀ (S : ByteArray) (N z : Int) W, S.size ≤ maxLen → Rd W p (zs ls) → Calls Try.prog 21 #[.agg #[.string S, .int .i64 N], .int .i64 z, .slice p ls.length c] W (RdP W (rdR S N z ls)) := fun S N z W h0 h1 => pread_any S N z ls p c W h0 h1 hl
  have hc := wrR_cases s n ls sy
  obtain ⟨m, hm1⟩ : ∃ m, m = ls.length := ⟨_, rfl⟩
  obtain ⟨m2, hm2⟩ : ∃ m2, m2 = sy.length := ⟨_, rfl⟩
  rw [← hm1] at CA0 CR0 hl ⊢
  rw [← hm2] at CA0 hm ⊢
  have HM := Lib.hid hm1; have HM2 := Lib.hid hm2
  clear hp hq hsb hm1 hm2
  have B : Hid (Below w.heap.size w w) := Lib.hid (Below.refl _ _)
  rcases hc with ⟨S, N, E, he, hE⟩ | ⟨h1, h2, h3, he⟩
  · rw [he] at CA0
    have CA := Lib.hid CA0
    have e1 : (E == 0) = false := by rw [beq_eq_false_iff_ne]; exact hE
    have e2 : (E != 0) = true := by rw [bne_iff_ne]; exact hE
    clear CA0 CR0 he hE hl hm
    go_enter Try.func5, Try.ntmps5
    go_wp2_with fail
    refine (CL.out _).mono ?_
    rintro e w0 ⟨rfl, b⟩
    replace P := Lib.hid ((P.out.alloc _).below b)
    replace Q := Lib.hid ((Q.out.alloc _).below b)
    replace BX := Lib.hid (BX.out.below b)
    replace B := Lib.hid ((B.out.alloc (B.out.size) _).trans (b.mono (B.out.alloc (B.out.size) _).size))
    clear b
    have b0 := BX.out.c0; have b1 := BX.out.c1
    go_wp2_with fail
    refine (CA.out _ P.out Q.out).mono ?_
    rintro e w1 ⟨rfl, b⟩
    replace B := Lib.hid ((B.out.trans (b.mono B.out.size)).alloc (B.out.trans (b.mono B.out.size)).size (.cells #[.string S, .int .i64 N] 35))
    clear b b0 b1
    go_wp2_with fail
    go_ret
    exact ⟨rfl, B.out⟩
  · have hR := chk_zero h1
    obtain ⟨X, hX⟩ : ∃ X, X = bl (Bt.bytes s) n.toNat := ⟨_, rfl⟩
    rw [← hX] at h3 he
    have hXl : X.length = n.toNat := by rw [hX, bl_length]
    have hnn : (X.length : Int) = n := by rw [hXl]; have := hR.1; omega
    have hXb : X.length ≤ 1048576 := by rw [hXl]; have := hR.2.1; omega
    have hYb := errT_len (ls := ls) (sy := sy) hXb sy.length (Nat.le_refl _) h3
    have hrt := rt_of h2
    have hsX : packS X = s := by rw [hX]; exact pack_self h1
    obtain ⟨RY, hRY⟩ := bitsT_rest ls X sy sy.length 0 (by omega)
    rw [Nat.zero_add, bitsT_zero] at hRY
    obtain ⟨Y, hY⟩ : ∃ Y, Y = bitsT ls X sy sy.length := ⟨_, rfl⟩
    rw [← hY] at he hYb hRY
    have hbk : ∀ k, k < m2 → rdR (packS Y) (Y.length : Nat) (((bitsT ls X sy k).length : Nat) : Int) ls = (sy.getD k 0, (((bitsT ls X sy (k + 1)).length : Nat) : Int), 0) ∧ sy.getD k 0 < m ∧ (((bitsT ls X sy (k + 1)).length : Nat) : Int) - ((bitsT ls X sy k).length : Nat) = ls.getD (sy.getD k 0) 0 ∧ (bitsT ls X sy (k + 1)).length ≤ 1048576 := fun k hk => by
      obtain ⟨g1, g2, g3, g4⟩ := back_at hrt h3 (k := k) (by rw [← HM2.out]; exact hk)
      rw [← hY] at g1 g4
      have hle : (bitsT ls X sy k).length ≤ Y.length := by
        obtain ⟨R, h⟩ := bitsT_rest ls X sy 1 k (by rw [← HM2.out]; omega)
        have := congrArg List.length h
        rw [List.length_append] at this
        omega
      exact ⟨rdR_at h2 hYb hle g1, by rw [HM.out]; exact g2, g3, by omega⟩
    have HBK := Lib.hid hbk
    have HZB : Hid (∀ x, x < m → 0 ≤ ls.getD x 0 ∧ ls.getD x 0 ≤ 15) := Lib.hid (fun x hx => hrt.all x (by rw [← HM.out]; exact hx))
    have hcE : cutE (packS Y) (Y.length : Nat) 0 n = 0 := by
      unfold cutE
      have hle : X.length ≤ Y.length := by rw [hRY, List.length_append]; omega
      rw [if_neg (by rw [packS_chk hYb]; simp), if_neg (by omega), if_neg (by omega)]
    have hcS : cutS (packS Y) (Y.length : Nat) 0 n = s := by
      unfold cutS
      rw [if_pos hcE, Int.toNat_natCast, packS_bits, ← hnn, Int.toNat_natCast, hRY]
      simp [hsX]
    have hcN : cutN (packS Y) (Y.length : Nat) 0 n = n := by unfold cutN; rw [if_pos hcE]
    have hsm := packS_size hYb
    obtain ⟨S, hS⟩ : ∃ S, S = packS Y := ⟨_, rfl⟩
    obtain ⟨N, hN⟩ : ∃ N, N = Y.length := ⟨_, rfl⟩
    have CC := Lib.hid (fun W => cut_any S (N : Int) 0 n W (by unfold maxLen; rw [hS]; omega))
    rw [← hS, ← hN] at he HBK hcE hcS hcN
    rw [hcE, hcS, hcN] at CC
    rw [he] at CA0
    have CA := Lib.hid CA0
    have CR := Lib.hid (fun k (hk : k < m2) W h => by have := CR0 S (N : Int) (((bitsT ls X sy k).length : Nat) : Int) W (by unfold maxLen; rw [hS]; omega) h; rw [(HBK.out k hk).1] at this; exact this)
    have HNA : Hid (N = (bitsT ls X sy m2).length) := Lib.hid (by rw [hN, hY, HM2.out])
    have HA0 : Hid (n = (((bitsT ls X sy 0).length : Nat) : Int)) := Lib.hid (by rw [bitsT_zero]; exact hnn.symm)
    clear CA0 CR0 he hl hS hN hY hX hXl hXb hnn hR hYb hRY hbk hcE hcS hcN hsm hsX h1 h2 h3 hrt
    go_enter Try.func5, Try.ntmps5
    go_wp2_with fail
    refine (CL.out _).mono ?_
    rintro e w0 ⟨rfl, b⟩
    replace P := Lib.hid ((P.out.alloc _).below b)
    replace Q := Lib.hid ((Q.out.alloc _).below b)
    replace BX := Lib.hid (BX.out.below b)
    replace B := Lib.hid ((B.out.alloc (B.out.size) _).trans (b.mono (B.out.alloc (B.out.size) _).size))
    clear b
    have b0 := BX.out.c0; have b1 := BX.out.c1
    go_wp2_with fail
    refine (CA.out _ P.out Q.out).mono ?_
    rintro e w1 ⟨rfl, b⟩
    clear b0 b1
    have BY : Hid (Box (w1.alloc (.cells #[.string S, .int .i64 (N : Int)] 35)) w1.heap.size S (N : Int)) := Lib.hid (Box.new w1 S (N : Int))
    replace P := Lib.hid ((P.out.below b).alloc (.cells #[.string S, .int .i64 (N : Int)] 35))
    replace Q := Lib.hid ((Q.out.below b).alloc (.cells #[.string S, .int .i64 (N : Int)] 35))
    replace BX := Lib.hid ((BX.out.below b).alloc (.cells #[.string S, .int .i64 (N : Int)] 35))
    replace B := Lib.hid ((B.out.trans (b.mono B.out.size)).alloc (B.out.trans (b.mono B.out.size)).size (.cells #[.string S, .int .i64 (N : Int)] 35))
    clear b
    have b0 := BX.out.c0; have b1 := BX.out.c1
    go_wp2_with fail
    clear b0 b1
    go_loopw [9, 32] (fun av iv wr => ∃ k : Nat, k ≤ m2 ∧ iv = .int .i64 k ∧ av = .int .i64 (((bitsT ls X sy k).length : Nat) : Int) ∧ Hid (Rd wr p (zs ls)) ∧ Hid (Rd wr q (nums sy)) ∧ Hid (Box wr w.heap.size s n) ∧ Hid (Box wr w1.heap.size S (N : Int)) ∧ Hid (Below w.heap.size w wr)) (fun _ iv _ => m2 - (RowKit.intOf iv).toNat)
    case atStart => exact ⟨0, by omega, rfl, by rw [← HA0.out], P, Q, BX, BY, B⟩
    case round =>
      clear P Q BX BY B
      obtain ⟨k, hk, rfl, rfl, P, Q, BX, BY, B⟩ := hrel
      by_cases hlt : k < m2
      · obtain ⟨a2, e2, cs⟩ := rd_num Q.out k (by rw [← HM2.out]; exact hlt)
        subst e2
        obtain ⟨g1, g2, g3, g4⟩ := HBK.out k hlt
        have CRk := Lib.hid (fun W h => CR.out k hlt W h)
        have k0 : (0 : Int) ≤ (k : Int) := by omega
        have k1 : (k : Int) < (m2 : Int) := by omega
        obtain ⟨x, hx⟩ : ∃ x, x = sy.getD k 0 := ⟨_, rfl⟩
        obtain ⟨A1, hA1⟩ : ∃ A1, A1 = (bitsT ls X sy (k + 1)).length := ⟨_, rfl⟩
        obtain ⟨A0, hA0⟩ : ∃ A0, A0 = (bitsT ls X sy k).length := ⟨_, rfl⟩
        rw [← hx] at cs CRk g2 g3
        rw [← hA1] at CRk g3 g4
        rw [← hA0] at CRk g3 ⊢
        have HA1 := Lib.hid hA1
        obtain ⟨z, hz⟩ : ∃ z, z = ls.getD x 0 := ⟨_, rfl⟩
        rw [← hz] at g3
        have hz15 := HZB.out x g2
        rw [← hz] at hz15
        have HZ := Lib.hid hz
        have x0 : (0 : Int) ≤ (x : Int) := by omega
        have x1 : (x : Int) < (m : Int) := by omega
        have b0 := BY.out.c0; have b1 := BY.out.c1
        clear g1 hx hA1 hA0 hz
        go_wp2_with fail
        refine (CRk.out _ P.out).mono ?_
        rintro e w3 ⟨rfl, b⟩
        replace P := Lib.hid (P.out.below b)
        replace Q := Lib.hid (Q.out.below b)
        replace BX := Lib.hid (BX.out.below b)
        replace BY := Lib.hid (BY.out.below b)
        replace B := Lib.hid (B.out.trans (b.mono B.out.size))
        obtain ⟨a1, e1, cz⟩ := rd_z P.out x (by rw [← HM.out]; exact g2)
        subst e1
        rw [← HZ.out] at cz
        have hzb : IntKind.i64.wrap z = z := IntWalk.i64_in _ (by omega)
        have e3 : (z != z) = false := by simp
        clear b b0 b1
        go_wp2_with fail
        go_roundw
        case rel => exact ⟨k + 1, by omega, by go_num, by rw [← HA1.out], P, Q, BX, BY, B⟩
        case measure => simp [RowKit.intOf]; omega
      · obtain rfl : k = m2 := by omega
        have k1 : ¬ (k : Int) < (k : Int) := by omega
        rw [← HNA.out]
        have b0 := BX.out.c0; have b1 := BX.out.c1; have y0 := BY.out.c0; have y1 := BY.out.c1
        go_wp2_with fail
        refine (CC.out _).mono ?_
        rintro e w3 ⟨rfl, b⟩
        clear b0 b1 y0 y1
        replace BX := Lib.hid ((BX.out.below b).alloc (.cells #[.string s, .int .i64 n] 35))
        replace BY := Lib.hid ((BY.out.below b).alloc (.cells #[.string s, .int .i64 n] 35))
        replace B := Lib.hid ((B.out.trans (b.mono B.out.size)).alloc (B.out.trans (b.mono B.out.size)).size (.cells #[.string s, .int .i64 n] 35))
        have b0 := BX.out.c0; have b1 := BX.out.c1; have y0 := BY.out.c0; have y1 := BY.out.c1
        have e3 : ((N : Int) == (N : Int)) = true := by simp
        clear b
        go_wp2_with fail
        go_ret
        exact ⟨rfl, B.out⟩
end Go.Proofs.Ytjnehpkkkmicfaa.Cn
