/- lives: the answers that the document gives. -/
import Derived.Test.YthkgdjclgphodaaLsMake
namespace Go.Proofs.Ythkgdjclgphodaa.Ls
open Go.RowKit Rw Nm

def KA : Keys := [[5], [3], [4]]
def KB : Keys := [[5], [], [4]]
def KC : Keys := [[]]
def tr (K : Keys) : List Int := up (build K)
theorem m0 : KA.length = 3 ∧ KB.length = 3 ∧ KC.length = 1 ∧ (tr KA).length = 3 ∧ (tr KB).length = 3 ∧ (tr KC).length = 1 := by refine ⟨?_, ?_, ?_, ?_, ?_, ?_⟩ <;> kernel_rfl
theorem m1 : mkE KA = 0 ∧ mkK KA = KA := by constructor <;> kernel_rfl
theorem m2 : topE KA (tr KA) = 0 ∧ topI KA (tr KA) = 1 ∧ topK KA (tr KA) = [3] := by refine ⟨?_, ?_, ?_⟩ <;> kernel_rfl
theorem m3 : apE KA (tr KA) [] = 0 ∧ apK KA (tr KA) [] = KB := by constructor <;> kernel_rfl
theorem m4 : topE KB (tr KB) = 0 ∧ topI KB (tr KB) = 2 ∧ topK KB (tr KB) = [4] := by refine ⟨?_, ?_, ?_⟩ <;> kernel_rfl
theorem m5 : apE KA (tr KA) [2] = 12 ∧ apK KA (tr KA) [2] = KA := by constructor <;> kernel_rfl
theorem m6 : pathE KA (tr KA) 0 = 0 ∧ pathL KA (tr KA) 0 = [1] := by constructor <;> kernel_rfl
theorem m7 : mkE [] = 1 ∧ mkK [] = [] := by constructor <;> kernel_rfl
theorem m8 : mkE KC = 0 ∧ mkK KC = KC := by constructor <;> kernel_rfl
theorem m9 : topE KC (tr KC) = 3 ∧ topI KC (tr KC) = 0 ∧ topK KC (tr KC) = [] := by refine ⟨?_, ?_, ?_⟩ <;> kernel_rfl
theorem m10 : chk KB (tr KB) = 0 := by kernel_rfl
theorem kb_of (K : Keys) (h : K.all (fun x => decide (x.length ≤ 17592186044416)) = true) : Kb K := by
  intro i hi
  have := List.all_eq_true.1 h (K.getD i []) (by simp [List.getD_eq_getElem?_getD, hi])
  simpa using this
theorem kbA : Kb KA := kb_of _ (by kernel_rfl)
theorem kbB : Kb KB := kb_of _ (by kernel_rfl)
theorem kbC : Kb KC := kb_of _ (by kernel_rfl)
/-- a tree of n leaves, answered -/
def TrN (w : World) (K : Keys) (n : Nat) (r : Int) (e : Ending) (w' : World) : Prop :=
  ∃ (p : Option Addr) (c : Nat) (q : Option Addr) (d : Nat), e = .returned (.tuple #[.agg #[.slice p n c, .slice q n d], .int .i64 r]) ∧ LsAt w' p K q (tr K) ∧ Below w.heap.size w w'
theorem tr_n {w w' : World} {K : Keys} {r : Int} {e : Ending} {n : Nat} (h : TrP w K r e w') (h1 : K.length = n) (h2 : (tr K).length = n) : TrN w K n r e w' := by
  obtain ⟨p, c, q, d, rfl, hl, hb⟩ := h
  exact ⟨p, c, q, d, by rw [h1, ← h2]; rfl, hl, hb⟩
section
variable {p q qx : Option Addr} {c d dx : Nat} {w : World}
theorem l_make (h : RecsAt w p KA) : Calls Try.prog 8 #[.slice p 3 c] w fun e w' => TrN w KA 3 0 e w' := by
  have := make_any (c := c) h (by rw [m0.1]; decide) kbA
  rw [m0.1, m1.1, m1.2] at this
  exact this.mono fun e w' h => tr_n h m0.1 m0.2.2.2.1
theorem l_top (h : LsAt w p KA q (tr KA)) : Calls Try.prog 13 #[.agg #[.slice p 3 c, .slice q 3 d]] w fun e w' => ∃ q' c', e = .returned (.tuple #[.int .i64 1, .slice q' 1 c', .int .i64 0]) ∧ Rd w' q' (nums [3]) ∧ Below w.heap.size w w' := by
  have := top_any (c := c) (d := d) h kbA
  rw [m0.1, m0.2.2.2.1] at this
  refine this.mono ?_
  rintro e w' ⟨q', c', rfl, hr, hb⟩
  rw [m2.2.2] at hr ⊢
  exact ⟨q', c', by rw [m2.1, m2.2.1]; rfl, hr, hb⟩
theorem l_put (h : LsAt w p KA q (tr KA)) : Calls Try.prog 15 #[.agg #[.slice p 3 c, .slice q 3 d], .slice none 0 0] w fun e w' => TrN w KB 3 0 e w' := by
  have := aput_any (c := c) (d := d) (qx := none) (dx := 0) (x := []) h kbA (Rd.nil _ _) (by simp)
  rw [m0.1, m0.2.2.2.1, m3.1, m3.2] at this
  exact this.mono fun e w' h => tr_n h m0.2.1 m0.2.2.2.2.1
theorem l_topB (h : LsAt w p KB q (tr KB)) : Calls Try.prog 13 #[.agg #[.slice p 3 c, .slice q 3 d]] w fun e w' => ∃ q' c', e = .returned (.tuple #[.int .i64 2, .slice q' 1 c', .int .i64 0]) ∧ Rd w' q' (nums [4]) ∧ Below w.heap.size w w' := by
  have := top_any (c := c) (d := d) h kbB
  rw [m0.2.1, m0.2.2.2.2.1] at this
  refine this.mono ?_
  rintro e w' ⟨q', c', rfl, hr, hb⟩
  rw [m4.2.2] at hr ⊢
  exact ⟨q', c', by rw [m4.1, m4.2.1]; rfl, hr, hb⟩
theorem l_put2 (h : LsAt w p KA q (tr KA)) (hx : Rd w qx (nums [2])) : Calls Try.prog 15 #[.agg #[.slice p 3 c, .slice q 3 d], .slice qx 1 dx] w fun e w' => TrN w KA 3 12 e w' := by
  have := aput_any (c := c) (d := d) (qx := qx) (dx := dx) (x := [2]) h kbA hx (by simp)
  rw [m0.1, m0.2.2.2.1, m5.1, m5.2] at this
  exact this.mono fun e w' h => tr_n h m0.1 m0.2.2.2.1
theorem l_path (h : LsAt w p KA q (tr KA)) : Calls Try.prog 17 #[.agg #[.slice p 3 c, .slice q 3 d], .int .i64 0] w fun e w' => ∃ q' c', e = .returned (.tuple #[.slice q' 1 c', .int .i64 0]) ∧ Rd w' q' (zs [1]) ∧ Below w.heap.size w w' := by
  have := path_any (c := c) (d := d) 0 h
  rw [m0.1, m0.2.2.2.1] at this
  refine this.mono ?_
  rintro e w' ⟨q', c', rfl, hr, hb⟩
  rw [m6.2] at hr ⊢
  exact ⟨q', c', by rw [m6.1]; rfl, hr, hb⟩
theorem l_make0 : Calls Try.prog 8 #[.slice none 0 0] w fun e w' => TrN w [] 0 1 e w' := by
  have := make_any (K := []) (p := none) (c := 0) (w := w) (fun i hi => absurd hi (by simp)) (by simp) (fun i hi => absurd hi (by simp))
  rw [m7.1, m7.2] at this
  exact this.mono fun e w' h => tr_n h rfl rfl
theorem l_make1 (h : RecsAt w p KC) : Calls Try.prog 8 #[.slice p 1 c] w fun e w' => TrN w KC 1 0 e w' := by
  have := make_any (c := c) h (by rw [m0.2.2.1]; decide) kbC
  rw [m0.2.2.1, m8.1, m8.2] at this
  exact this.mono fun e w' h => tr_n h m0.2.2.1 m0.2.2.2.2.2
theorem l_topC (h : LsAt w p KC q (tr KC)) : Calls Try.prog 13 #[.agg #[.slice p 1 c, .slice q 1 d]] w fun e w' => ∃ q' c', e = .returned (.tuple #[.int .i64 0, .slice q' 0 c', .int .i64 3]) ∧ Below w.heap.size w w' := by
  have := top_any (c := c) (d := d) h kbC
  rw [m0.2.2.1, m0.2.2.2.2.2] at this
  refine this.mono ?_
  rintro e w' ⟨q', c', rfl, hr, hb⟩
  rw [m9.2.2]
  exact ⟨q', c', by rw [m9.1, m9.2.1]; rfl, hb⟩
theorem l_check (h : LsAt w p KB q (tr KB)) : Calls Try.prog 21 #[.agg #[.slice p 3 c, .slice q 3 d]] w fun e w' => e = .returned (.int .i64 0) ∧ Below w.heap.size w w' := by
  have := check_any (c := c) (d := d) h
  rw [m0.2.1, m0.2.2.2.2.1, m10] at this
  exact this
end
theorem u1_new (w : World) (n : Nat) : Rd (w.alloc (.cells #[.int .u64 (n : Nat)] 52)) (some ⟨w.heap.size, 0, none⟩) (nums [n]) := Rd.new w #[.int .u64 (n : Nat)] _
theorem recs_of {w : World} {g : Nat} {K : Keys} {V : List Value} (hb : Bx w g V) (hl : V.length = K.length) (h : ∀ i, i < K.length → ∃ (q : Option Addr) (c : Nat), V.getD i (.bool false) = .slice q (K.getD i []).length c ∧ Rd w q (nums (K.getD i [])) ∧ (K.getD i []).length ≤ 9223372036854775807) : RecsAt w (some ⟨g, 0, none⟩) K := by
  intro i hi
  obtain ⟨q, c, hv, hr, hn⟩ := h i hi
  have hc := hb.cell i (by omega)
  rw [hv] at hc
  exact ⟨⟨g, 0, none⟩, q, c, rfl, hb.lt, by rw [Addr.add_lit, Nat.zero_add]; exact hc, hr, hn⟩

set_option maxHeartbeats 8000000 in
set_option maxRecDepth 100000 in
theorem lives_any (w : World) : Calls Try.prog 10 #[] w fun e w' => e = .returned (.bool true) ∧ Below w.heap.size w w' := by
  obtain ⟨A1, hA1⟩ : ∃ A1, A1 = w.alloc (.cells #[.int .u64 5] 52) := ⟨_, rfl⟩
  obtain ⟨A2, hA2⟩ : ∃ A2, A2 = A1.alloc (.cells #[.int .u64 3] 52) := ⟨_, rfl⟩
  obtain ⟨A3, hA3⟩ : ∃ A3, A3 = A2.alloc (.cells #[.int .u64 4] 52) := ⟨_, rfl⟩
  obtain ⟨A4, hA4⟩ : ∃ A4, A4 = A3.alloc (.cells #[.slice (some ⟨w.heap.size, 0, none⟩) 1 1, .slice (some ⟨w.heap.size + 1, 0, none⟩) 1 1, .slice (some ⟨w.heap.size + 1 + 1, 0, none⟩) 1 1] 32) := ⟨_, rfl⟩
  have b1 : Below w.heap.size w A1 := by rw [hA1]; exact (Below.refl _ _).alloc (Nat.le_refl _) _
  have s1 : A1.heap.size = w.heap.size + 1 := by rw [hA1]; simp
  have b2 : Below A1.heap.size A1 A2 := by rw [hA2]; exact (Below.refl _ _).alloc (Nat.le_refl _) _
  have s2 : A2.heap.size = w.heap.size + 1 + 1 := by rw [hA2]; simp [s1]
  have b3 : Below A2.heap.size A2 A3 := by rw [hA3]; exact (Below.refl _ _).alloc (Nat.le_refl _) _
  have s3 : A3.heap.size = w.heap.size + 1 + 1 + 1 := by rw [hA3]; simp [s2]
  have b4 : Below A3.heap.size A3 A4 := by rw [hA4]; exact (Below.refl _ _).alloc (Nat.le_refl _) _
  have r1 : Rd A4 (some ⟨w.heap.size, 0, none⟩) (nums [5]) := by have := u1_new w 5; rw [show ((5 : Nat) : Int) = 5 from rfl, ← hA1] at this; exact ((this.below b2).below b3).below b4
  have r2 : Rd A4 (some ⟨w.heap.size + 1, 0, none⟩) (nums [3]) := by have := u1_new A1 3; rw [show ((3 : Nat) : Int) = 3 from rfl, ← hA2, s1] at this; exact (this.below b3).below b4
  have r3 : Rd A4 (some ⟨w.heap.size + 1 + 1, 0, none⟩) (nums [4]) := by have := u1_new A2 4; rw [show ((4 : Nat) : Int) = 4 from rfl, ← hA3, s2] at this; exact this.below b4
  have bx := Bx.new A3 #[.slice (some ⟨w.heap.size, 0, none⟩) 1 1, .slice (some ⟨w.heap.size + 1, 0, none⟩) 1 1, .slice (some ⟨w.heap.size + 1 + 1, 0, none⟩) 1 1] 32
  rw [← hA4, s3] at bx
  have hrec : RecsAt A4 (some ⟨w.heap.size + 1 + 1 + 1, 0, none⟩) KA := recs_of bx rfl (fun i hi => by
    rw [m0.1] at hi
    match i, hi with
    | 0, _ => exact ⟨_, 1, rfl, r1, by decide⟩
    | 1, _ => exact ⟨_, 1, rfl, r2, by decide⟩
    | 2, _ => exact ⟨_, 1, rfl, r3, by decide⟩)
  have B0 : Hid (Below w.heap.size w A4) := Lib.hid (b1.trans ((b2.mono b1.size).trans ((b3.mono (Nat.le_trans b1.size b2.size)).trans (b4.mono (Nat.le_trans (Nat.le_trans b1.size b2.size) b3.size)))))
  have HM := Lib.hid (l_make (c := 3) hrec)
  have HA1 := Lib.hid hA1; have HA2 := Lib.hid hA2; have HA3 := Lib.hid hA3; have HA4 := Lib.hid hA4
  clear b1 b2 b3 b4 s1 s2 s3 r1 r2 r3 bx hrec hA1 hA2 hA3 hA4
  go_enter Try.func10, Try.ntmps10
  go_wp2_with fail
  rw [← HA1.out, ← HA2.out, ← HA3.out, ← HA4.out]
  refine HM.out.mono ?_
  rintro e w1 ⟨p1, c1, q1, d1, rfl, hls, hb⟩
  clear HM HA1 HA2 HA3 HA4
  have B1 : Hid (Below w.heap.size w w1) := Lib.hid (B0.out.trans (hb.mono B0.out.size))
  clear B0 hb
  obtain ⟨W1, hW1⟩ : ∃ W, W = w1.alloc (.cells #[.slice p1 3 c1, .slice q1 3 d1] 25) := ⟨_, rfl⟩
  have kW1 : Below w1.heap.size w1 W1 := by rw [hW1]; exact (Below.refl _ _).alloc (Nat.le_refl _) _
  have xW1 : Bx W1 w1.heap.size [.slice p1 3 c1, .slice q1 3 d1] := by rw [hW1]; exact Bx.new w1 #[.slice p1 3 c1, .slice q1 3 d1] _
  have lt := hls.below kW1
  have BW1 : Hid (Below w.heap.size w W1) := Lib.hid (B1.out.trans (kW1.mono B1.out.size))
  have HW1 := Lib.hid hW1; have XT := Lib.hid xW1; have LT := Lib.hid lt
  have t0 : W1.cell? ⟨w1.heap.size, 0, none⟩ = some (.slice p1 3 c1) := xW1.cell 0 (by simp)
  have t1 : W1.cell? ⟨w1.heap.size, 1, none⟩ = some (.slice q1 3 d1) := xW1.cell 1 (by simp)
  clear hW1 kW1 xW1 lt hls B1
  go_wp2_with fail
  rw [← HW1.out]
  refine (l_top LT.out).mono ?_
  rintro e w2 ⟨q2, c2, rfl, hr2, hb⟩
  have B2 : Hid (Below w.heap.size w w2) := Lib.hid (BW1.out.trans (hb.mono BW1.out.size))
  have XT2 := Lib.hid (XT.out.below hb); have LT2 := Lib.hid (LT.out.below hb); have RK2 := Lib.hid hr2
  have t0 : w2.cell? ⟨w1.heap.size, 0, none⟩ = some (.slice p1 3 c1) := XT2.out.cell 0 (by simp)
  have t1 : w2.cell? ⟨w1.heap.size, 1, none⟩ = some (.slice q1 3 d1) := XT2.out.cell 1 (by simp)
  clear hb hr2 BW1 XT LT HW1
  go_wp2_with fail
  refine (l_put LT2.out).mono ?_
  rintro e w3 ⟨p3, c3, q3, d3, rfl, hls, hb⟩
  have B3 : Hid (Below w.heap.size w w3) := Lib.hid (B2.out.trans (hb.mono B2.out.size))
  obtain ⟨W3, hW3⟩ : ∃ W, W = w3.alloc (.cells #[.slice p3 3 c3, .slice q3 3 d3] 25) := ⟨_, rfl⟩
  have kW3 : Below w3.heap.size w3 W3 := by rw [hW3]; exact (Below.refl _ _).alloc (Nat.le_refl _) _
  have xW3 : Bx W3 w3.heap.size [.slice p3 3 c3, .slice q3 3 d3] := by rw [hW3]; exact Bx.new w3 #[.slice p3 3 c3, .slice q3 3 d3] _
  have hb3 := hb.trans (kW3.mono hb.size)
  have BW3 : Hid (Below w.heap.size w W3) := Lib.hid (B3.out.trans (kW3.mono B3.out.size))
  have XT3 := Lib.hid (XT2.out.below hb3); have LT3 := Lib.hid (LT2.out.below hb3); have RK3 := Lib.hid (RK2.out.below hb3); have XU3 := Lib.hid xW3; have LU3 := Lib.hid (hls.below kW3); have HW3 := Lib.hid hW3
  have v0 : W3.cell? ⟨w3.heap.size, 0, none⟩ = some (.slice p3 3 c3) := xW3.cell 0 (by simp)
  have v1 : W3.cell? ⟨w3.heap.size, 1, none⟩ = some (.slice q3 3 d3) := xW3.cell 1 (by simp)
  clear t0 t1 hb hb3 hls hW3 kW3 xW3 XT2 LT2 RK2 B2 B3
  go_wp2_with fail
  rw [← HW3.out]
  refine (l_topB LU3.out).mono ?_
  rintro e w4 ⟨q4, c4, rfl, _, hb⟩
  have B4 : Hid (Below w.heap.size w w4) := Lib.hid (BW3.out.trans (hb.mono BW3.out.size))
  obtain ⟨W4, hW4⟩ : ∃ W, W = w4.alloc (.cells #[.int .u64 2] 52) := ⟨_, rfl⟩
  have k4 : Below w4.heap.size w4 W4 := by rw [hW4]; exact (Below.refl _ _).alloc (Nat.le_refl _) _
  have r4 : Rd W4 (some ⟨w4.heap.size, 0, none⟩) (nums [2]) := by have := u1_new w4 2; rw [show ((2 : Nat) : Int) = 2 from rfl, ← hW4] at this; exact this
  have hb4 := hb.trans (k4.mono hb.size)
  have BW4 : Hid (Below w.heap.size w W4) := Lib.hid (B4.out.trans (k4.mono B4.out.size))
  have XT4 := Lib.hid (XT3.out.below hb4); have LT4 := Lib.hid (LT3.out.below hb4); have RK4 := Lib.hid (RK3.out.below hb4); have XU4 := Lib.hid (XU3.out.below hb4); have LU4 := Lib.hid (LU3.out.below hb4); have R4 := Lib.hid r4; have HW4 := Lib.hid hW4
  have t0 : w4.cell? ⟨w1.heap.size, 0, none⟩ = some (.slice p1 3 c1) := (XT3.out.below hb).cell 0 (by simp)
  have t1 : w4.cell? ⟨w1.heap.size, 1, none⟩ = some (.slice q1 3 d1) := (XT3.out.below hb).cell 1 (by simp)
  clear v0 v1 hb hb4 hW4 k4 r4 XT3 LT3 RK3 XU3 LU3 HW3 BW3 B4
  go_wp2_with fail
  rw [← HW4.out]
  refine (l_put2 LT4.out R4.out).mono ?_
  rintro e w5 ⟨p5, c5, q5, d5, rfl, _, hb⟩
  have B5 : Hid (Below w.heap.size w w5) := Lib.hid (BW4.out.trans (hb.mono BW4.out.size))
  obtain ⟨W5, hW5⟩ : ∃ W, W = w5.alloc (.cells #[.slice p5 3 c5, .slice q5 3 d5] 25) := ⟨_, rfl⟩
  have kW5 : Below w5.heap.size w5 W5 := by rw [hW5]; exact (Below.refl _ _).alloc (Nat.le_refl _) _
  have xW5 : Bx W5 w5.heap.size [.slice p5 3 c5, .slice q5 3 d5] := by rw [hW5]; exact Bx.new w5 #[.slice p5 3 c5, .slice q5 3 d5] _
  have hb5 := hb.trans (kW5.mono hb.size)
  have BW5 : Hid (Below w.heap.size w W5) := Lib.hid (B5.out.trans (kW5.mono B5.out.size))
  have LT5 := Lib.hid (LT4.out.below hb5); have RK5 := Lib.hid (RK4.out.below hb5); have XU5 := Lib.hid (XU4.out.below hb5); have LU5 := Lib.hid (LU4.out.below hb5); have HW5 := Lib.hid hW5
  have t0 : W5.cell? ⟨w1.heap.size, 0, none⟩ = some (.slice p1 3 c1) := (XT4.out.below hb5).cell 0 (by simp)
  have t1 : W5.cell? ⟨w1.heap.size, 1, none⟩ = some (.slice q1 3 d1) := (XT4.out.below hb5).cell 1 (by simp)
  have t0' : w5.cell? ⟨w1.heap.size, 0, none⟩ = some (.slice p1 3 c1) := (XT4.out.below hb).cell 0 (by simp)
  have t1' : w5.cell? ⟨w1.heap.size, 1, none⟩ = some (.slice q1 3 d1) := (XT4.out.below hb).cell 1 (by simp)
  have tl := (XT4.out.below hb).lt
  clear hb hb5 hW5 kW5 xW5 XT4 LT4 RK4 XU4 LU4 HW4 BW4 B5 R4
  go_wp2_with fail
  rw [← HW5.out]
  refine (l_path LT5.out).mono ?_
  rintro e w6 ⟨q6, c6, rfl, hr6, hb⟩
  have B6 : Hid (Below w.heap.size w w6) := Lib.hid (BW5.out.trans (hb.mono BW5.out.size))
  have RK6 := Lib.hid (RK5.out.below hb); have XU6 := Lib.hid (XU5.out.below hb); have LU6 := Lib.hid (LU5.out.below hb); have RP6 := Lib.hid hr6
  clear t0 t1 t0' t1' tl hb hr6 LT5 RK5 XU5 LU5 HW5 BW5
  go_wp2_with fail
  refine l_make0.mono ?_
  rintro e w7 ⟨p7, c7, q7, d7, rfl, _, hb⟩
  have B7 : Hid (Below w.heap.size w w7) := Lib.hid (B6.out.trans (hb.mono B6.out.size))
  obtain ⟨W7, hW7⟩ : ∃ W, W = w7.alloc (.cells #[.slice p7 0 c7, .slice q7 0 d7] 25) := ⟨_, rfl⟩
  have kW7 : Below w7.heap.size w7 W7 := by rw [hW7]; exact (Below.refl _ _).alloc (Nat.le_refl _) _
  have xW7 : Bx W7 w7.heap.size [.slice p7 0 c7, .slice q7 0 d7] := by rw [hW7]; exact Bx.new w7 #[.slice p7 0 c7, .slice q7 0 d7] _
  obtain ⟨V7, hV7⟩ : ∃ W, W = W7.alloc (.cells #[.slice none 0 0] 32) := ⟨_, rfl⟩
  have kV7 : Below W7.heap.size W7 V7 := by rw [hV7]; exact (Below.refl _ _).alloc (Nat.le_refl _) _
  have xV7 := Bx.new W7 #[.slice none 0 0] 32
  rw [← hV7] at xV7
  have hrec : RecsAt V7 (some ⟨W7.heap.size, 0, none⟩) KC := recs_of xV7 rfl (fun i hi => by
    rw [m0.2.2.1] at hi
    match i, hi with
    | 0, _ => exact ⟨none, 0, rfl, Rd.nil _ _, by decide⟩)
  have hb7 := (hb.trans (kW7.mono hb.size)).trans (kV7.mono (Nat.le_trans hb.size kW7.size))
  have BV7 : Hid (Below w.heap.size w V7) := Lib.hid ((B7.out.trans (kW7.mono B7.out.size)).trans (kV7.mono (Nat.le_trans B7.out.size kW7.size)))
  have RK7 := Lib.hid (RK6.out.below hb7); have XU7 := Lib.hid (XU6.out.below hb7); have LU7 := Lib.hid (LU6.out.below hb7); have RP7 := Lib.hid (RP6.out.below hb7); have HW7 := Lib.hid hW7; have HV7 := Lib.hid hV7; have HR7 := Lib.hid hrec
  have s7 : Hid (W7.heap.size = w7.heap.size + 1) := Lib.hid (by rw [hW7]; simp)
  clear hb hb7 hW7 kW7 xW7 hV7 kV7 xV7 hrec RK6 XU6 LU6 RP6 B6 B7
  go_wp2_with fail
  rw [← HW7.out, ← s7.out, ← HV7.out]
  refine (l_make1 HR7.out).mono ?_
  rintro e w8 ⟨p8, c8, q8, d8, rfl, hls, hb⟩
  have B8 : Hid (Below w.heap.size w w8) := Lib.hid (BV7.out.trans (hb.mono BV7.out.size))
  obtain ⟨W8, hW8⟩ : ∃ W, W = w8.alloc (.cells #[.slice p8 1 c8, .slice q8 1 d8] 25) := ⟨_, rfl⟩
  have kW8 : Below w8.heap.size w8 W8 := by rw [hW8]; exact (Below.refl _ _).alloc (Nat.le_refl _) _
  have xW8 : Bx W8 w8.heap.size [.slice p8 1 c8, .slice q8 1 d8] := by rw [hW8]; exact Bx.new w8 #[.slice p8 1 c8, .slice q8 1 d8] _
  have hb8 := hb.trans (kW8.mono hb.size)
  have BW8 : Hid (Below w.heap.size w W8) := Lib.hid (B8.out.trans (kW8.mono B8.out.size))
  have RK8 := Lib.hid (RK7.out.below hb8); have XU8 := Lib.hid (XU7.out.below hb8); have LU8 := Lib.hid (LU7.out.below hb8); have RP8 := Lib.hid (RP7.out.below hb8); have HW8 := Lib.hid hW8; have LE8 := Lib.hid (hls.below kW8)
  have z0 : W8.cell? ⟨w8.heap.size, 0, none⟩ = some (.slice p8 1 c8) := xW8.cell 0 (by simp)
  have z1 : W8.cell? ⟨w8.heap.size, 1, none⟩ = some (.slice q8 1 d8) := xW8.cell 1 (by simp)
  clear hb hb8 hls hW8 kW8 xW8 RK7 XU7 LU7 RP7 HW7 HV7 HR7 s7 BV7 B8
  go_wp2_with fail
  rw [← HW8.out]
  refine (l_topC LE8.out).mono ?_
  rintro e w9 ⟨q9, c9, rfl, hb⟩
  have B9 : Hid (Below w.heap.size w w9) := Lib.hid (BW8.out.trans (hb.mono BW8.out.size))
  have LU9 := Lib.hid (LU8.out.below hb)
  have v0 : w9.cell? ⟨w3.heap.size, 0, none⟩ = some (.slice p3 3 c3) := (XU8.out.below hb).cell 0 (by simp)
  have v1 : w9.cell? ⟨w3.heap.size, 1, none⟩ = some (.slice q3 3 d3) := (XU8.out.below hb).cell 1 (by simp)
  obtain ⟨a2, rfl, _, ka⟩ := (RK8.out.below hb) 0 (by simp [nums])
  obtain ⟨a6, rfl, _, pa⟩ := (RP8.out.below hb) 0 (by simp [zs])
  rw [show (nums [3]).getD 0 (.bool false) = .int .u64 3 from rfl] at ka
  rw [show (zs [1]).getD 0 (.bool false) = .int .i64 1 from rfl] at pa
  rw [add_zero'] at ka pa
  clear z0 z1 hb RK8 XU8 LU8 RP8 HW8 LE8 BW8
  go_wp2_with (go_at_call 21; refine (l_check LU9.out).mono ?_; rintro e w10 ⟨rfl, hb⟩; have B10 := Lib.hid (B9.out.trans (hb.mono B9.out.size)); clear hb)
  go_ret
  exact ⟨rfl, B10.out⟩
end Go.Proofs.Ythkgdjclgphodaa.Ls
