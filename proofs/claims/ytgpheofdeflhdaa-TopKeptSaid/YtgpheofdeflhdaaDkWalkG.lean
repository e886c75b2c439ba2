/- The walk of Read. -/
import Derived.Test.YtgpheofdeflhdaaDkWalkF
namespace Go.Proofs.Ytgpheofdeflhdaa.Dk
open Go.RowKit Go.Op

theorem seenF_mem {L : List Wr} {n : ByteArray} {c : Int} {d : ByteArray} : ∀ {j : Nat}, j ≤ L.length → seenF L n c j = some d → ∃ i, i < L.length ∧ d = (L.getD i default).2.2
  | 0, _, h => by cases h
  | j + 1, hj, h => by
    unfold seenF at h
    split at h
    · exact ⟨j, hj, (Option.some.inj h).symm⟩
    · exact seenF_mem (by omega) h
theorem seenO_size {L : List Wr} {n y : ByteArray} {c j : Nat} (hj : j ≤ L.length) (h : ∀ i, i < L.length → (L.getD i default).2.2.size ≤ 140737488355328) (_hy : y.size ≤ 140737488355328) : (seenO L n y c j).size ≤ 140737488355328 := by
  unfold seenO
  split
  · rename_i d hd
    obtain ⟨i, hi, rfl⟩ := seenF_mem hj hd
    exact h i hi
  · rw [ByteArray.size_extract]; omega
def readO (z : Int) (E : List Ext) (L : List Wr) (fz : Int) (dn : Bool) (b : ByteArray) (c : Int) : ByteArray := if readyE z E L fz dn = 0 ∧ findE E b c = 0 then seenO L b (E.getD (pos E b) default).2 c.toNat L.length else ⟨#[]⟩
def readE (z : Int) (E : List Ext) (L : List Wr) (fz : Int) (dn : Bool) (b : ByteArray) (c : Int) : Int := if readyE z E L fz dn = 0 then findE E b c else readyE z E L fz dn
theorem find_good {E : List Ext} {b : ByteArray} {c : Int} (h : findE E b c = 0) : isAt E b = true ∧ 0 ≤ c ∧ c < (lookN E b : Nat) := by
  unfold findE at h
  split at h
  · rename_i hi
    split at h
    · rename_i hc
      rw [Bool.and_eq_true] at hc
      exact ⟨hi, of_decide_eq_true hc.1, of_decide_eq_true hc.2⟩
    · simp at h
  · simp at h
theorem ret_si {a b : ByteArray} {c d : Int} (h : a = b) (k : c = d) : Ending.returned (.tuple #[.string a, .int .i64 c]) = .returned (.tuple #[.string b, .int .i64 d]) := by rw [h, k]

set_option maxHeartbeats 4000000 in
set_option maxRecDepth 100000 in
theorem Read_any (z : Int) (pE pW : Option Addr) (nE cE nW cW : Nat) (fz : Int) (dn : Bool) (E : List Ext) (L : List Wr) (b : ByteArray) (c : Int) (w : World) (hn : nE = E.length) (h : ExtAt w pE E) (hE : nE ≤ 9223372036854775807) (hnW : nW = L.length) (hW : WrsAt w pW L) (hLl : nW ≤ 9223372036854775807) :
    Calls Try.prog 11 #[.agg #[.int .i64 z, .slice pE nE cE, .slice pW nW cW, .int .i64 fz, .bool dn], .string b, .int .i64 c] w fun e w' => e = .returned (.tuple #[.string (readO z E L fz dn b c), .int .i64 (readE z E L fz dn b c)]) ∧ Below w.heap.size w w' := by
  have hbx : Below w.heap.size w (w.alloc (.cells #[.int .i64 z, .slice pE nE cE, .slice pW nW cW, .int .i64 fz, .bool dn] 31)) := (Below.refl _ _).alloc (Nat.le_refl _) _
  have HE := Lib.hid (h.below hbx); have HN := Lib.hid hn; have HW := Lib.hid (hW.below hbx); have HNW := Lib.hid hnW
  have HB := Lib.hid (Boxed.new w #[.int .i64 z, .slice pE nE cE, .slice pW nW cW, .int .i64 fz, .bool dn] 31)
  have hLs : ∀ i, i < L.length → (L.getD i default).2.2.size ≤ 140737488355328 := fun i hi => by obtain ⟨_, _, _, _, _, _, _, _, q⟩ := hW i hi; exact q
  have hEs : ∀ i, i < E.length → (E.getD i default).2.size ≤ 140737488355328 := fun i hi => by obtain ⟨_, _, _, _, _, _, _, q⟩ := h i hi; exact q
  have HLS := Lib.hid hLs; have HES := Lib.hid hEs
  clear h hn hW hnW hLs hEs
  obtain ⟨r, hr⟩ : ∃ r, r = readyE z E L fz dn := ⟨_, rfl⟩
  have HR := Lib.hid hr
  by_cases h0 : r = 0
  case neg =>
    have F : Hid (⟨#[]⟩ = readO z E L fz dn b c ∧ r = readE z E L fz dn b c) := Lib.hid ⟨by unfold readO; rw [← hr, if_neg (fun h => h0 h.1)], by unfold readE; rw [← hr, if_neg h0]⟩
    have t : (r != 0) = true := by rw [bne_iff_ne]; exact h0
    clear hr h0
    go_enter Try.func11, Try.ntmps11
    go_wp2_with fail
    refine (ready_any z pE pW nE cE nW cW fz dn E L _ HN.out HE.out hE HNW.out HW.out hLl).mono ?_
    rw [← HR.out]
    rintro e w1 ⟨rfl, b1⟩
    have B := Lib.hid (hbx.trans (b1.mono (by simp)))
    clear b1
    go_wp2_with fail
    go_ret2
    exact ⟨ret_si F.out.1 F.out.2, B.out⟩
  subst h0
  obtain ⟨hc, hdn⟩ := ready_good hr.symm
  have hg := chk_good hc
  have hEb := exR_length hg.1 hg.2.2.2.1
  have hE9 : nE ≤ 1000000000 := by rw [HN.out]; omega
  have hW9 : nW ≤ 1000000000 := by rw [HNW.out]; have := wtR_length hg.2.2.2.2; omega
  have HS := Lib.hid (exR_sorted hg.2.2.2.1)
  obtain ⟨f, hf⟩ : ∃ f, f = findE E b c := ⟨_, rfl⟩
  have FE : Hid (f = readE z E L fz dn b c) := Lib.hid (by unfold readE; rw [← hr, hf]; rfl)
  have HF := Lib.hid hf
  have FO : readO z E L fz dn b c = if f = 0 then seenO L b (E.getD (pos E b) default).2 c.toNat L.length else ⟨#[]⟩ := by
    unfold readO
    rw [← hr, ← hf]
    by_cases h : f = 0
    · rw [if_pos ⟨rfl, h⟩, if_pos h]
    · rw [if_neg (fun q => h q.2), if_neg h]
  clear hr hc hdn hg hEb
  by_cases h1 : f = 0
  case neg =>
    have F : Hid (⟨#[]⟩ = readO z E L fz dn b c) := Lib.hid (by rw [FO, if_neg h1])
    have t : (f != 0) = true := by rw [bne_iff_ne]; exact h1
    clear FO hf h1
    go_enter Try.func11, Try.ntmps11
    go_wp2_with fail
    refine (ready_any z pE pW nE cE nW cW fz dn E L _ HN.out HE.out hE HNW.out HW.out hLl).mono ?_
    rw [← HR.out]
    rintro e w1 ⟨rfl, b1⟩
    have B := Lib.hid (hbx.trans (b1.mono (by simp)))
    have hb := HB.out.below b1
    have q0 : w1.cell? ⟨w.heap.size, 0, none⟩ = some (.int .i64 z) := hb.cell 0 (by simp)
    have q1 : w1.cell? ⟨w.heap.size, 1, none⟩ = some (.slice pE nE cE) := hb.cell 1 (by simp)
    have q2 : w1.cell? ⟨w.heap.size, 2, none⟩ = some (.slice pW nW cW) := hb.cell 2 (by simp)
    have q3 : w1.cell? ⟨w.heap.size, 3, none⟩ = some (.int .i64 fz) := hb.cell 3 (by simp)
    have q4 : w1.cell? ⟨w.heap.size, 4, none⟩ = some (.bool dn) := hb.cell 4 (by simp)
    have HE1 := Lib.hid (HE.out.below b1)
    clear b1 hb
    go_wp2_with fail
    refine (find_any z pE pW nE cE nW cW fz dn E b c _ HN.out HE1.out HS.out hE9).mono ?_
    rw [← HF.out]
    rintro e w2 ⟨rfl, b2⟩
    have B2 := Lib.hid (B.out.trans (b2.mono B.out.size))
    clear b2
    go_wp2_with fail
    go_ret2
    exact ⟨ret_si F.out FE.out, B2.out⟩
  subst h1
  obtain ⟨hi, hc0, hc1⟩ := find_good hf.symm
  have hlt := isAt_lt hi
  obtain ⟨k, hk⟩ : ∃ k, k = pos E b := ⟨_, rfl⟩
  have HFA : Hid (findA E b c = (k : Int)) := Lib.hid (by unfold findA; rw [← hf, hk]; rfl)
  obtain ⟨y, hy⟩ : ∃ y, y = (E.getD k default).2 := ⟨_, rfl⟩
  have hxb : b = (E.getD k default).1 := by
    unfold isAt at hi
    rw [Bool.and_eq_true] at hi
    rw [hk]; exact (of_decide_eq_true hi.2).symm
  have hq0 : lookN E b = many y := by unfold lookN; rw [if_pos hi, hy, hk]
  obtain ⟨m, rfl⟩ : ∃ m : Nat, c = (m : Int) := ⟨c.toNat, by omega⟩
  have hcy : (m + 1) * 64 ≤ y.size := by rw [hq0] at hc1; unfold many at hc1; omega
  have hys : y.size ≤ 140737488355328 := by rw [hy, hk]; exact HES.out _ hlt
  have hkn : k < nE := by rw [HN.out, hk]; exact hlt
  have F : Hid (seenO L b y m nW = readO z E L fz dn b (m : Int)) := Lib.hid (by rw [FO, if_pos rfl, hy, hk, HNW.out]; rfl)
  have HSZ : Hid ((seenO L b y m nW).size ≤ 281474976710656) := Lib.hid (Nat.le_trans (seenO_size (by rw [HNW.out]; exact Nat.le_refl _) HLS.out hys) (by omega))
  have HY := Lib.hid hy; have HXB := Lib.hid hxb; have HCY := Lib.hid hcy
  clear FO hf hi hc0 hc1 hlt hk hy hxb hq0 hcy hys
  go_enter Try.func11, Try.ntmps11
  go_wp2_with fail
  refine (ready_any z pE pW nE cE nW cW fz dn E L _ HN.out HE.out hE HNW.out HW.out hLl).mono ?_
  rw [← HR.out]
  rintro e w1 ⟨rfl, b1⟩
  have B := Lib.hid (hbx.trans (b1.mono (by simp)))
  have hb := HB.out.below b1
  have q0 : w1.cell? ⟨w.heap.size, 0, none⟩ = some (.int .i64 z) := hb.cell 0 (by simp)
  have q1 : w1.cell? ⟨w.heap.size, 1, none⟩ = some (.slice pE nE cE) := hb.cell 1 (by simp)
  have q2 : w1.cell? ⟨w.heap.size, 2, none⟩ = some (.slice pW nW cW) := hb.cell 2 (by simp)
  have q3 : w1.cell? ⟨w.heap.size, 3, none⟩ = some (.int .i64 fz) := hb.cell 3 (by simp)
  have q4 : w1.cell? ⟨w.heap.size, 4, none⟩ = some (.bool dn) := hb.cell 4 (by simp)
  have HE1 := Lib.hid (HE.out.below b1)
  have HW1 := Lib.hid (HW.out.below b1)
  have HB1 := Lib.hid hb
  clear b1 hb
  go_wp2_with fail
  refine (find_any z pE pW nE cE nW cW fz dn E b (m : Int) _ HN.out HE1.out HS.out hE9).mono ?_
  rw [← HF.out, HFA.out]
  rintro e w2 ⟨rfl, b2⟩
  have B2 := Lib.hid (B.out.trans (b2.mono B.out.size))
  have hb := HB1.out.below b2
  have p0 : w2.cell? ⟨w.heap.size, 0, none⟩ = some (.int .i64 z) := hb.cell 0 (by simp)
  have p1 : w2.cell? ⟨w.heap.size, 1, none⟩ = some (.slice pE nE cE) := hb.cell 1 (by simp)
  have p2 : w2.cell? ⟨w.heap.size, 2, none⟩ = some (.slice pW nW cW) := hb.cell 2 (by simp)
  have p3 : w2.cell? ⟨w.heap.size, 3, none⟩ = some (.int .i64 fz) := hb.cell 3 (by simp)
  have p4 : w2.cell? ⟨w.heap.size, 4, none⟩ = some (.bool dn) := hb.cell 4 (by simp)
  have HE2 := Lib.hid (HE1.out.below b2)
  have HW2 := Lib.hid (HW1.out.below b2)
  clear b2 hb q0 q1 q2 q3 q4
  go_wp2_with fail
  refine (seen_any z pE pW nE cE nW cW fz dn E L k m b y _ HN.out HE2.out hkn HXB.out HY.out HCY.out HNW.out HW2.out hW9).mono ?_
  rintro e w3 ⟨rfl, b3⟩
  have B3 := Lib.hid (B2.out.trans (b3.mono B2.out.size))
  clear b3
  go_wp2_with fail
  refine (Cln.clone_any _ _ HSZ.out).mono ?_
  rintro e w4 ⟨rfl, b4⟩
  have B4 := Lib.hid (B3.out.trans (b4.mono B3.out.size))
  clear b4
  go_wp2_with fail
  go_ret2
  exact ⟨ret_si F.out FE.out, B4.out⟩
end Go.Proofs.Ytgpheofdeflhdaa.Dk
