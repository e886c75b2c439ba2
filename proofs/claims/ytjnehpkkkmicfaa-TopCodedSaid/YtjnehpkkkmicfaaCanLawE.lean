/- The law CanonLengths. -/
import Derived.Test.YtjnehpkkkmicfaaCanLawC
import Derived.Test.YtjnehpkkkmicfaaBnF
import Derived.Test.YtjnehpkkkmicfaaPkN
namespace Go.Proofs.Ytjnehpkkkmicfaa.Cn
open Go.RowKit Go.Lib Rw Ls Od _root_.Go.Proofs.Ytjnehpkkkmicfaa.Nm Pk Bt

theorem some_none {ls : List Int} (h : ∀ i, ls.getD i 0 = 0) : ∀ k, someT ls k = 0
  | 0 => rfl
  | k + 1 => by rw [someT, some_none h k, h k]; rfl
theorem some_oneE {ls : List Int} {x : Nat} (h : ∀ i, ls.getD i 0 = if i = x then 1 else 0) : ∀ k, (k ≤ x → someT ls k = 0) ∧ (x < k → someT ls k = 1 ∧ lastT ls k = 1)
  | 0 => ⟨fun _ => rfl, fun h => by omega⟩
  | k + 1 => by
    obtain ⟨h1, h2⟩ := some_oneE h k
    have hk := h k
    refine ⟨fun hle => ?_, fun hlt => ?_⟩
    · rw [someT, h1 (by omega), hk]
      simp [show ¬ k = x by omega]
    · rcases Nat.lt_or_ge x k with hx | hx
      · obtain ⟨h3, h4⟩ := h2 hx
        rw [someT, lastT, h3, h4, hk]
        simp [show ¬ k = x by omega]
      · have e : k = x := by omega
        rw [someT, lastT, h1 hx, hk]
        simp [e]
theorem ok_lens {ws : List Nat} (ho : okW ws = true) : okC (up (lens ws 15)) := by
  have h512 := okW_len ho
  have hk : (sy ws).length ≤ 2 ^ 15 := Nat.le_trans (sy_len ws) (by omega)
  obtain ⟨n, h1, h2⟩ := lens_left ho (by decide : 1 ≤ 15) (by decide) hk
  have h1' : roomR (up (lens ws 15)) 15 = (n, 0) := h1
  refine ⟨by rw [h1'], ?_⟩
  rw [h1']
  rcases Nat.lt_or_ge (sy ws).length 2 with h | h
  · right
    have hlen : (up (lens ws 15)).length = ws.length := by rw [up_length, lens_length]
    rcases Nat.lt_or_ge (sy ws).length 1 with h3 | h3
    · left
      rw [few_none (by omega)]
      refine some_none (fun i => ?_) _
      rw [up_at, List.getD_eq_getElem?_getD]
      simp [List.getElem?_replicate]
      split <;> rfl
    · right
      obtain ⟨x, hx⟩ := List.length_eq_one_iff.1 (by omega : (sy ws).length = 1)
      have hxw := sy_lt (i := x) (by rw [hx]; simp)
      rw [hlen]
      rw [few_one hx]
      refine (some_oneE (x := x) (fun i => ?_) ws.length).2 hxw.1
      rw [up_at, List.getD_eq_getElem?_getD, List.getElem?_set]
      by_cases e : x = i
      · subst e; simp [hxw.1]
      · rw [if_neg e, if_neg (Ne.symm e), List.getElem?_replicate]
        split <;> rfl
  · exact .inl (h2 h)
/-- one symbol, written to no bits -/
theorem one_written {ls : List Int} (hok : okC ls) {i : Nat} (hi : i < ls.length) :
    (ls.getD i 0 = 0 → wrR ⟨#[]⟩ 0 ls [i] = (⟨#[]⟩, 0, 3)) ∧ (ls.getD i 0 ≠ 0 → ∃ Y : List Bool, Y.length ≤ 15 ∧ wrR ⟨#[]⟩ 0 ls [i] = (packS Y, ((Y.length : Nat) : Int), 0) ∧ rdR (packS Y) (Y.length : Nat) 0 ls = (i, ((Y.length : Nat) : Int), 0)) := by
  have hc : chk ⟨#[]⟩ 0 = 0 := by decide +kernel
  have hX : bl (Bt.bytes ⟨#[]⟩) (0 : Int).toNat = [] := by decide +kernel
  have hrt := rt_of hok
  have h15 := hrt.ln15 hi
  have e1 : errT ls [] [i] 1 = stepE ls 0 i := by
    have := errT_next (ls := ls) (X := []) (sy := [i]) (k := 0) rfl
    rw [bitsT_zero] at this
    exact this
  refine ⟨fun h => ?_, fun h => ?_⟩
  · have e2 : stepE ls 0 i = 3 := by unfold stepE; rw [if_neg (by omega), if_pos h]
    unfold wrR
    rw [if_pos hc, if_pos hok, hX]
    have : errT ls [] [i] [i].length = 3 := by rw [← e2, ← e1]; rfl
    rw [this, if_neg (by decide)]
  · have e2 : stepE ls 0 i = 0 := by unfold stepE; rw [if_neg (by omega), if_neg h, if_neg (by omega)]
    have e3 : errT ls [] [i] [i].length = 0 := by rw [← e2, ← e1]; rfl
    have hb := back_at hrt e3 (k := 0) (by simp)
    have hl : (bitsT ls [] [i] [i].length).length ≤ 15 := by
      have := bitsT_succ ls [] [i] (k := 0) (by simp)
      rw [bitsT_zero] at this
      show (bitsT ls [] [i] (0 + 1)).length ≤ 15
      rw [this, List.nil_append, nbits_length]
      exact h15
    refine ⟨bitsT ls [] [i] [i].length, hl, ?_, ?_⟩
    · unfold wrR
      rw [if_pos hc, if_pos hok, hX, if_pos e3]
    · have h4 := hb.1
      rw [bitsT_zero] at h4
      have := rdR_at (a := 0) hok (by omega) (Nat.zero_le _) h4
      exact this
theorem lenR_two (ws : List Nat) : (∃ r, lenR ws 15 = ([], r) ∧ r ≠ 0) ∨ (okW ws = true ∧ lenR ws 15 = (lens ws 15, 0)) := by
  unfold lenR
  split
  · rename_i h
    unfold okL at h
    simp only [Bool.and_eq_true] at h
    split
    · exact .inl ⟨_, rfl, by decide⟩
    · exact .inr ⟨h.1.1, rfl⟩
  · exact .inl ⟨_, rfl, by decide⟩
set_option maxHeartbeats 8000000 in
set_option maxRecDepth 100000 in
theorem lengths_law (ws : List Nat) (p : Option Addr) (c : Nat) (w : World) (hp : Rd w p (nums ws)) (hl : ws.length ≤ 17592186044416) :
    Calls Try.prog 7 #[.slice p ws.length c] w fun e w' => e = .returned (.bool true) ∧ Below w.heap.size w w' := by
  have CL := Lib.hid (fun W => lives_any W)
  have P := Lib.hid hp
  have B : Hid (Below w.heap.size w w) := Lib.hid (Below.refl _ _)
  rcases lenR_two ws with ⟨r, he, hr⟩ | ⟨ho, he⟩
  · have CA : Hid (∀ W, Rd W p (nums ws) → Calls Try.prog 24 #[.slice p ws.length c, .int .i64 15] W (IEn W 0 [] r)) := Lib.hid (fun W h => ien_of he rfl (plengths_any ws 15 p c W h hl))
    have e1 : (r == 0) = false := by rw [beq_eq_false_iff_ne]; exact hr
    have e2 : (r != 0) = true := by rw [bne_iff_ne]; exact hr
    clear hp hl he hr
    go_enter Try.func7, Try.ntmps7
    go_wp2_with fail
    refine (CL.out _).mono ?_
    rintro e w0 ⟨rfl, b⟩
    replace P := Lib.hid (P.out.below b)
    replace B := Lib.hid (B.out.trans (b.mono B.out.size))
    clear b
    go_wp2_with fail
    refine (CA.out _ P.out).mono ?_
    rintro e w1 ⟨q1, c1, rfl, hc1, r1, b⟩
    replace B := Lib.hid (B.out.trans (b.mono B.out.size))
    clear b r1
    go_wp2_with fail
    go_ret
    exact ⟨rfl, B.out⟩
  · have hok := ok_lens ho
    have hlen : (lens ws 15).length = ws.length := lens_length ws 15
    have hn512 := okW_len ho
    have hw1 : ∀ i, i < ws.length → (0 < ws.getD i 0 ↔ (up (lens ws 15)).getD i 0 ≠ 0) := fun i hi => by
      have := (lens_one (lim := 15) (by decide) (Nat.le_trans (sy_len ws) (by omega)) hi).2
      rw [up_at, this]; omega
    have hwb : ∀ i, ws.getD i 0 ≤ 1099511627776 := okW_at ho
    obtain ⟨n, hn⟩ : ∃ n, n = ws.length := ⟨_, rfl⟩
    have hul : (up (lens ws 15)).length = n := by rw [up_length, hlen, hn]
    have CA : Hid (∀ W, Rd W p (nums ws) → Calls Try.prog 24 #[.slice p n c, .int .i64 15] W (IEn W n (lens ws 15) 0)) := Lib.hid (fun W h => by rw [hn]; exact ien_of he hlen (plengths_any ws 15 p c W h hl))
    obtain ⟨L, hL⟩ : ∃ L, L = up (lens ws 15) := ⟨_, rfl⟩
    rw [← hL] at hok hw1 hul
    have CB : Hid (∀ q d W, Rd W q (zs L) → Calls Try.prog 17 #[.slice q n d] W fun e w' => e = .returned (.int .i64 0) ∧ Below W.heap.size W w') := Lib.hid (fun q d W h => by
      have := pcheckc_any L q d W h (by omega)
      unfold chkC at this
      rw [if_pos hok, hul] at this
      exact this)
    have CW : Hid (∀ i q d q2 d2 W, Rd W q (zs L) → Rd W q2 (nums [i]) → i < 18446744073709551616 → Calls Try.prog 19 #[.agg #[.string ⟨#[]⟩, .int .i64 0], .slice q n d, .slice q2 1 d2] W (WrP W (wrR ⟨#[]⟩ 0 L [i]))) := Lib.hid (fun i q d q2 d2 W h1 h2 h3 => by
      have := pwrite_any ⟨#[]⟩ 0 L [i] q q2 d d2 W (by decide) h1 h2 (by omega) (by simp) (by simpa using h3)
      rw [hul] at this
      exact this)
    have CR : Hid (∀ S N q d W, S.size ≤ maxLen → Rd W q (zs L) → Calls Try.prog 21 #[.agg #[.string S, .int .i64 N], .int .i64 0, .slice q n d] W (RdP W (rdR S N 0 L))) := Lib.hid (fun S N q d W h0 h1 => by
      have := pread_any S N 0 L q d W h0 h1 (by omega)
      rw [hul] at this
      exact this)
    have HOW : Hid (∀ i, i < n → (ws.getD i 0 = 0 ∧ wrR ⟨#[]⟩ 0 L [i] = (⟨#[]⟩, 0, 3)) ∨ (ws.getD i 0 ≠ 0 ∧ ∃ (S : ByteArray) (N : Nat), N ≤ 15 ∧ S.size ≤ maxLen ∧ wrR ⟨#[]⟩ 0 L [i] = (S, (N : Int), 0) ∧ rdR S (N : Int) 0 L = (i, (N : Int), 0))) := Lib.hid (fun i hi => by
      have h1 := hw1 i (by rw [← hn]; exact hi)
      obtain ⟨g1, g2⟩ := one_written hok (i := i) (by rw [hul]; exact hi)
      by_cases h0 : ws.getD i 0 = 0
      · refine .inl ⟨h0, g1 ?_⟩
        rcases Decidable.em (L.getD i 0 = 0) with h | h
        · exact h
        · have := h1.2 h; omega
      · obtain ⟨Y, k1, k2, k3⟩ := g2 (h1.1 (by omega))
        exact .inr ⟨h0, packS Y, Y.length, k1, by have := packS_size (X := Y) (by omega); unfold maxLen; omega, k2, k3⟩)
    rw [← hn] at hl hn512 ⊢
    have HN := Lib.hid hn; have HLL := Lib.hid hL; have HWB := Lib.hid hwb
    clear hp hl he ho hok hlen hw1 hwb hn hul hL
    go_enter Try.func7, Try.ntmps7
    go_wp2_with fail
    refine (CL.out _).mono ?_
    rintro e w0 ⟨rfl, b⟩
    replace P := Lib.hid (P.out.below b)
    replace B := Lib.hid (B.out.trans (b.mono B.out.size))
    clear b
    go_wp2_with fail
    refine (CA.out _ P.out).mono ?_
    rintro e w1 ⟨q1, c1, rfl, hc1, r1, b⟩
    replace P := Lib.hid (P.out.below b)
    replace B := Lib.hid (B.out.trans (b.mono B.out.size))
    rw [← HLL.out] at r1
    have R1 := Lib.hid r1
    clear b r1
    go_wp2_with fail
    refine (CB.out _ _ _ R1.out).mono ?_
    rintro e w2 ⟨rfl, b⟩
    replace P := Lib.hid (P.out.below b)
    replace R1 := Lib.hid (R1.out.below b)
    replace B := Lib.hid (B.out.trans (b.mono B.out.size))
    clear b
    go_wp2_with fail
    go_loopw [26] (fun iv wr => ∃ i : Nat, i ≤ n ∧ iv = .int .i64 i ∧ Hid (Rd wr p (nums ws)) ∧ Hid (Rd wr q1 (zs L)) ∧ Hid (Below w.heap.size w wr)) (fun iv _ => n - (RowKit.intOf iv).toNat)
    case atStart => exact ⟨0, by omega, rfl, P, R1, B⟩
    case round =>
      clear P R1 B
      obtain ⟨i, hi, rfl, P, R1, B⟩ := hrel
      by_cases hlt : i < n
      · obtain ⟨a2, e2, cs⟩ := rd_num P.out i (by rw [← HN.out]; exact hlt)
        subst e2
        have hxb := HWB.out i
        have k0 : (0 : Int) ≤ (i : Int) := by omega
        have k1 : (i : Int) < (n : Int) := by omega
        have v1 : IntKind.u64.wrap (i : Int) = (i : Int) := IntWalk.u64_in _ (by omega)
        have hcase := HOW.out i hlt
        obtain ⟨x, hx⟩ : ∃ x, x = ws.getD i 0 := ⟨_, rfl⟩
        rw [← hx] at cs hxb hcase
        have RX : Hid (Rd (wr.alloc (.cells #[.int .u64 (i : Int)] 23)) (some ⟨wr.heap.size, 0, none⟩) (nums [i])) := Lib.hid (Rd.new wr #[.int .u64 (i : Int)] _)
        clear hx
        rcases hcase with ⟨h0, h1⟩ | ⟨h0, S, N, hN15, hSm, h1, h2⟩
        · have CWi := Lib.hid (fun W h3 h4 => by have := CW.out i q1 c1 (some ⟨wr.heap.size, 0, none⟩) 1 W h3 h4 (by omega); rw [h1] at this; exact this)
          have e1 : ((x : Int) == 0) = true := by rw [beq_iff_eq]; omega
          have e2 : (x == 0) = true := by rw [beq_iff_eq]; exact h0
          clear h0 h1
          go_wp2_with fail
          refine (CWi.out _ (R1.out.alloc _) RX.out).mono ?_
          rintro e w3 ⟨rfl, b⟩
          have B3 : Hid (Below wr.heap.size wr w3) := Lib.hid (((Below.refl _ wr).alloc (Nat.le_refl _) _).trans (b.mono (by simp)))
          have B4 : Hid (Below wr.heap.size wr (w3.alloc (.cells #[.string ⟨#[]⟩, .int .i64 0] 35))) := Lib.hid (B3.out.alloc B3.out.size _)
          clear b
          go_wp2_with fail
          go_roundw
          case rel => exact ⟨i + 1, by omega, by go_num, Lib.hid (P.out.below B4.out), Lib.hid (R1.out.below B4.out), Lib.hid (B.out.trans (B4.out.mono B.out.size))⟩
          case measure => simp [RowKit.intOf]; omega
        · have CWi := Lib.hid (fun W h3 h4 => by have := CW.out i q1 c1 (some ⟨wr.heap.size, 0, none⟩) 1 W h3 h4 (by omega); rw [h1] at this; exact this)
          have CRi := Lib.hid (fun W h3 => by have := CR.out S (N : Int) q1 c1 W hSm h3; rw [h2] at this; exact this)
          have e1 : ((x : Int) == 0) = false := by rw [beq_eq_false_iff_ne]; omega
          have e2 : (x == 0) = false := by rw [beq_eq_false_iff_ne]; exact h0
          have e3 : ((i : Int) != (i : Int)) = false := by simp
          have e4 : ((N : Int) != (N : Int)) = false := by simp
          clear h0 h1 h2 hSm
          go_wp2_with fail
          refine (CWi.out _ (R1.out.alloc _) RX.out).mono ?_
          rintro e w3 ⟨rfl, b⟩
          have B3 : Hid (Below wr.heap.size wr w3) := Lib.hid (((Below.refl _ wr).alloc (Nat.le_refl _) _).trans (b.mono (by simp)))
          have B4 : Hid (Below wr.heap.size wr (w3.alloc (.cells #[.string S, .int .i64 (N : Int)] 35))) := Lib.hid (B3.out.alloc B3.out.size _)
          have BY : Hid (Box (w3.alloc (.cells #[.string S, .int .i64 (N : Int)] 35)) w3.heap.size S (N : Int)) := Lib.hid (Box.new w3 S (N : Int))
          clear b
          go_wp2_with fail
          refine (CRi.out _ (R1.out.below B4.out)).mono ?_
          rintro e w4 ⟨rfl, b⟩
          have B5 : Hid (Below wr.heap.size wr w4) := Lib.hid (B4.out.trans (b.mono B4.out.size))
          replace BY := Lib.hid (BY.out.below b)
          have y0 := BY.out.c0; have y1 := BY.out.c1
          clear b
          go_wp2_with fail
          go_roundw
          case rel => exact ⟨i + 1, by omega, by go_num, Lib.hid (P.out.below B5.out), Lib.hid (R1.out.below B5.out), Lib.hid (B.out.trans (B5.out.mono B.out.size))⟩
          case measure => simp [RowKit.intOf]; omega
      · obtain rfl : i = n := by omega
        have k1 : ¬ (i : Int) < (i : Int) := by omega
        go_wp2_with fail
        go_ret
        exact ⟨rfl, B.out⟩
end Go.Proofs.Ytjnehpkkkmicfaa.Cn
