/- What symbols tell part by part; the program's part. -/
import Derived.Test.YtbegngilbngnoaaDoorZepR
namespace Go.Proofs.YtbegngilbngnoaaDoor.Ze
open Go.RowKit Go.Lib Rw Ls Od _root_.Go.Proofs.YtbegngilbngnoaaDoor.Nm

theorem hd_cons_pos {l : List Nat} (h : 0 < l.length) (hx : l.getD 0 0 < 2) : 1 ≤ (hd l).length := by
  cases l with
  | nil => simp at h
  | cons x l => have : x < 2 := by simpa using hx
                simp [hd, this]
theorem hd_le (l : List Nat) : (hd l).length ≤ l.length := by
  obtain ⟨rest, h, -⟩ := hd_pre l
  have := congrArg List.length h
  rw [List.length_append] at this
  omega
theorem nm_pos {l : List Nat} (h : 1 ≤ l.length) : 1 ≤ nm l := by
  rcases Nat.eq_zero_or_pos (nm l) with h0 | h0
  · rw [nm_zero h0] at h; simp at h
  · exact h0
/-- the byte that a list's first symbols are, how often, how many symbols, why none -/
def pt (L : List Nat) : Nat × Nat × Nat × Nat := if 257 < L.getD 0 0 then (0, 0, 0, 7) else if 1 < L.getD 0 0 then (L.getD 0 0 - 1, 1, 1, 0) else if 65536 < nm (hd L) then (0, 0, (hd L).length, 8) else (0, nm (hd L), (hd L).length, 0)
theorem dec_run (M : Nat) (L : List Nat) (k : Nat) (out : List Nat) (_ho : out.length ≤ M) :
    dec M L k out [] = if M - out.length < nm (hd L) then ([], 0, 8) else dec M (L.drop (hd L).length) (k + (hd L).length) (out ++ List.replicate (nm (hd L)) 0) [] := by
  obtain ⟨rest, h, hy⟩ := hd_pre L
  have h2 := hd_lt L
  generalize hd L = r at h h2 hy
  subst h
  rw [dec_digits M _ _ _ _ _ h2, List.nil_append, List.drop_left]
  cases rest with
  | nil =>
    rw [dec, dec]
    by_cases h1 : M - out.length < nm r
    · rw [if_pos h1, if_pos h1]
    · rw [if_neg h1, if_neg h1, if_neg (by simp [nm])]
  | cons y rest =>
    have hy2 : 2 ≤ y := hy y rfl
    have hy3 : ¬ y < 2 := by omega
    rw [dec, dec, if_neg hy3, if_neg hy3]
    by_cases h1 : M - out.length < nm r
    · rw [if_pos h1, if_pos h1]
    · have e9 : ¬ (M - (out ++ List.replicate (nm r) 0).length < nm ([] : List Nat)) := by simp [nm]
      rw [if_neg h1, if_neg h1, if_neg e9]
      simp [nm]
theorem dec_part (L : List Nat) (k : Nat) (out : List Nat) (ho : out.length ≤ 65536) (hl : 0 < L.length) (h257 : L.getD 0 0 ≠ 257) :
    dec 65536 L k out [] = if (pt L).2.2.2 ≠ 0 then ([], 0, (pt L).2.2.2) else if 65536 < out.length + (pt L).2.1 then ([], 0, 8) else dec 65536 (L.drop (pt L).2.2.1) (k + (pt L).2.2.1) (out ++ List.replicate (pt L).2.1 (pt L).1) [] := by
  cases L with
  | nil => simp at hl
  | cons x L =>
    have e0 : (x :: L).getD 0 0 = x := rfl
    rw [e0] at h257
    by_cases h1 : 257 < x
    · have : pt (x :: L) = (0, 0, 0, 7) := by unfold pt; rw [e0, if_pos h1]
      have e3 : ¬ x < 2 := by omega
      have e4 : ¬ 65536 - out.length < nm ([] : List Nat) := by simp [nm]
      have e5 : 258 ≤ x := by omega
      rw [this, dec, if_neg e3, if_neg e4, if_pos e5]
      rfl
    · by_cases h2 : 1 < x
      · have : pt (x :: L) = (x - 1, 1, 1, 0) := by unfold pt; rw [e0, if_neg h1, if_pos h2]
        have e3 : ¬ x < 2 := by omega
        have e4 : ¬ 65536 - out.length < nm ([] : List Nat) := by simp [nm]
        have e5 : ¬ 258 ≤ x := by omega
        have e6 : nm ([] : List Nat) = 0 := rfl
        rw [this, dec, if_neg e3, if_neg e4, if_neg e5, if_neg h257, e6]
        show _ = if (0 : Nat) ≠ 0 then ([], 0, 0) else if 65536 < out.length + 1 then ([], 0, 8) else dec 65536 (L.drop 0) (k + 1) (out ++ List.replicate 1 (x - 1)) []
        rw [if_neg (by simp : ¬ (0 : Nat) ≠ 0)]
        by_cases h3 : out.length = 65536
        · have e7 : out.length + 0 = 65536 := h3
          have e8 : 65536 < out.length + 1 := by omega
          rw [if_pos e7, if_pos e8]
        · have e7 : ¬ out.length + 0 = 65536 := h3
          have e8 : ¬ 65536 < out.length + 1 := by omega
          rw [if_neg e7, if_neg e8]
          simp
      · rw [dec_run 65536 (x :: L) k out ho]
        by_cases h3 : 65536 < nm (hd (x :: L))
        · have : pt (x :: L) = (0, 0, (hd (x :: L)).length, 8) := by unfold pt; rw [e0, if_neg h1, if_neg h2, if_pos h3]
          rw [this, if_pos (by omega)]
          rfl
        · have : pt (x :: L) = (0, nm (hd (x :: L)), (hd (x :: L)).length, 0) := by unfold pt; rw [e0, if_neg h1, if_neg h2, if_neg h3]
          rw [this, if_neg (c := (0 : Nat) ≠ 0) (by simp)]
          by_cases h4 : 65536 < out.length + nm (hd (x :: L))
          · rw [if_pos (by omega), if_pos h4]
          · rw [if_neg (by omega), if_neg h4]
theorem pt_ok (L : List Nat) (hl : 0 < L.length) (h257 : L.getD 0 0 ≠ 257) : (pt L).1 < 256 ∧ (pt L).2.1 ≤ 65536 ∧ (pt L).2.2.1 ≤ L.length ∧ ((pt L).2.2.2 = 0 → 1 ≤ (pt L).2.1 ∧ 1 ≤ (pt L).2.2.1) ∧ (pt L).2.2.2 < 10 := by
  have hh := hd_le L
  unfold pt
  by_cases h1 : 257 < L.getD 0 0
  · rw [if_pos h1]; simp
  · rw [if_neg h1]
    by_cases h2 : 1 < L.getD 0 0
    · rw [if_pos h2]; simp only; omega
    · rw [if_neg h2]
      have h5 := hd_cons_pos hl (by omega)
      have h6 := nm_pos h5
      by_cases h3 : 65536 < nm (hd L)
      · rw [if_pos h3]; simp; exact hh
      · rw [if_neg h3]; simp only; omega
theorem numR_hd {L : List Nat} (h : hd L ≠ []) : numR (hd L) = if 65536 < nm (hd L) then (0, 8) else (nm (hd L), 0) := by
  unfold numR
  rw [if_neg h, if_pos (all_two.2 (hd_lt L))]
theorem add_none (a : Addr) : a.add 0 = a := by unfold Addr.add; split <;> simp_all
set_option maxHeartbeats 4000000 in
set_option maxRecDepth 100000 in
theorem part_any (L : List Nat) (p : Option Addr) (n c : Nat) (w : World) (hn : n = L.length) (h0 : 0 < n) (hc : n ≤ c) (hp : Rd w p (nums L)) (hl : n ≤ 17592186044416) (h257 : L.getD 0 0 ≠ 257) :
    Calls Tryd.prog 24 #[.slice p n c] w fun e w' => e = .returned (.tuple #[.int .u8 ((pt L).1 : Nat), .int .i64 ((pt L).2.1 : Nat), .int .i64 ((pt L).2.2.1 : Nat), .int .i64 ((pt L).2.2.2 : Nat)]) ∧ Below w.heap.size w w' := by
  obtain ⟨a, rfl, cy⟩ := rd_num hp 0 (by rw [← hn]; exact h0)
  have C1 := Lib.hid (ahead_any L (some a) n c w hn hc hp hl)
  have C2 := Lib.hid (pnumber_any (hd L) (some a) c w (by
    obtain ⟨rest, h, -⟩ := hd_pre L
    have h2 := hp
    rw [h, show nums (hd L ++ rest) = nums (hd L) ++ nums rest by simp [nums]] at h2
    exact h2.pre) (by have := hd_le L; omega))
  have hH1 := hd_le L
  have HP1 : Hid (L.getD 0 0 < 2 → 1 ≤ (hd L).length) := Lib.hid (hd_cons_pos (by rw [← hn]; exact h0))
  have HPT : Hid (pt L = if 257 < L.getD 0 0 then (0, 0, 0, 7) else if 1 < L.getD 0 0 then (L.getD 0 0 - 1, 1, 1, 0) else if 65536 < nm (hd L) then (0, 0, (hd L).length, 8) else (0, nm (hd L), (hd L).length, 0)) := Lib.hid rfl
  have HNR := Lib.hid (fun h => numR_hd (L := L) h)
  obtain ⟨r, hr⟩ : ∃ r, r = hd L := ⟨_, rfl⟩
  obtain ⟨x, hx⟩ : ∃ x, x = L.getD 0 0 := ⟨_, rfl⟩
  rw [← hr] at C1 C2 HP1 HPT HNR hH1
  rw [← hx] at cy HP1 HPT h257
  obtain ⟨m, hm⟩ : ∃ m, m = r.length := ⟨_, rfl⟩
  have HRN : Hid (1 ≤ m → r ≠ []) := Lib.hid (fun h e => by rw [hm, e] at h; simp at h)
  rw [← hm] at C1 C2 HP1 HPT hH1
  have cz : w.cell? a = some (.int .u64 (x : Nat)) := by rw [← add_none a]; exact cy
  have n0 : (0 : Int) < (n : Int) := by omega
  clear hp hn hx hm hr
  by_cases h1 : 257 < x
  · have F : Hid (pt L = (0, 0, 0, 7)) := Lib.hid (by rw [HPT.out, if_pos h1])
    have d1 : decide ((257 : Int) < (x : Int)) = true := decide_eq_true (by omega)
    have d2 : decide (257 < x) = true := decide_eq_true h1
    rw [F.out]
    clear h1 HPT
    go_enter Tryd.func24, Tryd.ntmps24
    go_wp2_with fail
    refine bodyPost_ret (v := .tuple #[.int .u8 0, .int .i64 0, .int .i64 0, .int .i64 7]) (by simp [results, Tryd.results24, go_sem]) rfl ?_
    exact ⟨rfl, Below.refl _ _⟩
  have d1 : decide ((257 : Int) < (x : Int)) = false := decide_eq_false (by omega)
  have d2 : decide (257 < x) = false := decide_eq_false h1
  by_cases h2 : 1 < x
  · have F : Hid (pt L = (x - 1, 1, 1, 0)) := Lib.hid (by rw [HPT.out, if_neg h1, if_pos h2])
    have d3 : decide ((1 : Int) < (x : Int)) = true := decide_eq_true (by omega)
    have d4 : decide (1 < x) = true := decide_eq_true h2
    obtain ⟨y, hy⟩ : ∃ y, y = x - 1 := ⟨_, rfl⟩
    have z1 : (x : Int) - 1 = (y : Int) := by omega
    have z2 : IntKind.u64.wrap (y : Int) = (y : Int) := IntWalk.u64_in _ (by omega)
    have z3 : IntKind.u8.wrap (y : Int) = (y : Int) := by simp [IntKind.wrap, IntKind.bits, IntKind.signed]; omega
    rw [F.out, ← hy]
    clear h1 h2 HPT hy
    go_enter Tryd.func24, Tryd.ntmps24
    go_wp2_with fail
    refine bodyPost_ret (v := .tuple #[.int .u8 (y : Nat), .int .i64 1, .int .i64 1, .int .i64 0]) (by simp [results, Tryd.results24, go_sem]) rfl ?_
    exact ⟨rfl, Below.refl _ _⟩
  have d3 : decide ((1 : Int) < (x : Int)) = false := decide_eq_false (by omega)
  have d4 : decide (1 < x) = false := decide_eq_false h2
  have hm1 := HP1.out (by omega)
  obtain ⟨N, e, HF, HNE, hN⟩ : ∃ N e : Nat, Hid (pt L = (0, N, m, e)) ∧ Hid (numR r = (N, (e : Int))) ∧ N ≤ 65536 := by
    have e1 := HNR.out (HRN.out hm1)
    have e2 := HPT.out
    rw [if_neg h1, if_neg h2] at e2
    by_cases h3 : 65536 < nm r
    · rw [if_pos h3] at e1 e2; exact ⟨0, 8, Lib.hid e2, Lib.hid e1, by omega⟩
    · rw [if_neg h3] at e1 e2; exact ⟨nm r, 0, Lib.hid e2, Lib.hid e1, by omega⟩
  have C3 : Hid (Calls Tryd.prog 16 #[.slice (some a) m c] w fun e' w' => e' = .returned (.tuple #[.int .u64 (N : Nat), .int .i64 (e : Nat)]) ∧ Below w.heap.size w w') := Lib.hid (by have := C2.out; rwa [HNE.out] at this)
  have z3 : IntKind.i64.wrap (N : Int) = (N : Int) := IntWalk.i64_in _ (by omega)
  rw [HF.out]
  clear h1 h2 HPT C2 HNR HP1 HRN HNE cy
  go_enter Tryd.func24, Tryd.ntmps24
  go_wp2_with fail
  refine C1.out.mono ?_
  rintro e1 w1 ⟨rfl, hw⟩
  replace hw := hw.symm
  subst hw
  go_wp2_with fail
  refine C3.out.mono ?_
  rintro e1 w2 ⟨rfl, hb⟩
  have HB := Lib.hid hb
  clear hb
  go_wp2_with fail
  refine bodyPost_ret (v := .tuple #[.int .u8 0, .int .i64 (N : Nat), .int .i64 (m : Nat), .int .i64 (e : Nat)]) (by simp [results, Tryd.results24, go_sem]) rfl ?_
  exact ⟨rfl, HB.out⟩
end Go.Proofs.YtbegngilbngnoaaDoor.Ze
