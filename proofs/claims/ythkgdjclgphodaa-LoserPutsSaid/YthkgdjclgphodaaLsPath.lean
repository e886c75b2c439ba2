/- The walk of Path. -/
import Derived.Test.YthkgdjclgphodaaLsTop
namespace Go.Proofs.Ythkgdjclgphodaa.Ls
open Go.RowKit Rw Nm

def pathE (K : Keys) (T : List Int) (leaf : Int) : Int := if chk K T = 0 then (if 0 ≤ leaf ∧ leaf < K.length then 0 else 1) else 2
def pathL (K : Keys) (T : List Int) (leaf : Int) : List Nat := if pathE K T leaf = 0 then path ((K.length + leaf.toNat) / 2) else []
def PathP (w : World) (K : Keys) (T : List Int) (leaf : Int) (e : Ending) (w' : World) : Prop :=
  ∃ (q : Option Addr) (c : Nat), e = .returned (.tuple #[.slice q (pathL K T leaf).length c, .int .i64 (pathE K T leaf)]) ∧ Rd w' q (zs (up (pathL K T leaf))) ∧ Below w.heap.size w w'
theorem path_no {w w' : World} {K : Keys} {T : List Int} {leaf : Int} (r : Int) (h : pathE K T leaf = r) (h0 : r ≠ 0) (hb : Below w.heap.size w w') : PathP w K T leaf (.returned (.tuple #[.slice none 0 0, .int .i64 r])) w' := by
  have h1 : pathE K T leaf ≠ 0 := by rw [h]; exact h0
  have e2 : pathL K T leaf = [] := if_neg h1
  exact ⟨none, 0, by rw [e2, h]; rfl, by rw [e2]; exact Rd.nil _ _, hb⟩
theorem own_rd {w : World} {B : Nat} {e : TypeId} {s : Nat} {v : Value} {n : Nat} {xs : List Value} (h : w.ownsRow B e s v n xs) : ∃ (q : Option Addr) (c : Nat), v = .slice q n c ∧ Rd w q xs := by
  rcases h.2 with ⟨rfl, h0⟩ | ⟨g, cap, cur, rfl, _⟩
  · have hn : n = 0 := by first | exact h0 | (have := h.1; omega)
    subst hn
    refine ⟨none, 0, rfl, ?_⟩
    have : xs = [] := List.eq_nil_of_length_eq_zero (by have := h.1; omega)
    rw [this]; exact Rd.nil _ _
  · exact ⟨_, _, rfl, Rd.of_own h⟩
theorem path_short {m : Nat} (h : m ≤ 512) : (path m).length ≤ 1000 := by
  have : ∀ m, (path m).length ≤ m := by
    intro m
    induction m using Nat.strongRecOn with
    | ind n ih =>
      by_cases h : 1 ≤ n
      · rw [path_pos h, List.length_cons]
        have := ih (n / 2) (by omega)
        omega
      · have : n = 0 := by omega
        subst this
        simp [path_zero]
  have := this m
  omega

section
variable {K : Keys} {T : List Int} {p q : Option Addr} {c d : Nat} {w : World}
set_option maxHeartbeats 4000000 in
set_option maxRecDepth 100000 in
theorem path_any (leaf : Int) (h : LsAt w p K q T) :
    Calls Try.prog 17 #[.agg #[.slice p K.length c, .slice q T.length d], .int .i64 leaf] w fun e w' => PathP w K T leaf e w' := by
  obtain ⟨n, hn⟩ : ∃ n, n = K.length := ⟨_, rfl⟩
  obtain ⟨m, hm⟩ : ∃ m, m = T.length := ⟨_, rfl⟩
  obtain ⟨W0, hW0⟩ : ∃ W0, W0 = w.alloc (.cells #[.slice p n c, .slice q m d] 25) := ⟨_, rfl⟩
  have t0 : Below w.heap.size w W0 := by rw [hW0]; exact (Below.refl _ _).alloc (Nat.le_refl _) _
  have bx := Bx.new w #[.slice p n c, .slice q m d] 25
  rw [← hW0] at bx
  obtain ⟨r, hr⟩ : ∃ r, r = chk K T := ⟨_, rfl⟩
  have HC := Lib.hid (check_any (c := c) (d := d) (h.below t0))
  rw [← hr] at HC
  rw [← hn, ← hm] at HC ⊢
  have u0 : W0.cell? ⟨w.heap.size, 0, none⟩ = some (.slice p n c) := bx.cell 0 (by simp)
  have u1 : W0.cell? ⟨w.heap.size, 1, none⟩ = some (.slice q m d) := bx.cell 1 (by simp)
  have T0 := Lib.hid t0; have HW0 := Lib.hid hW0; have HBX := Lib.hid bx
  rcases chk_cases K T with ⟨h0, hK, hT⟩ | h2
  case inr =>
    rw [h2] at hr
    subst hr
    have hE : pathE K T leaf = 2 := by unfold pathE; rw [h2]; rfl
    clear h hn hm t0 bx h2 hW0
    go_enter Try.func17, Try.ntmps17
    go_wp2_with fail
    rw [← HW0.out]
    refine HC.out.mono ?_
    rintro e w1 ⟨rfl, b1⟩
    have B := Lib.hid (T0.out.trans (b1.mono T0.out.size))
    clear b1
    go_wp2_with fail
    refine bodyPost_ret (v := .tuple #[.slice none 0 0, .int .i64 2]) (by simp [results, Try.results17, go_sem]) rfl ?_
    exact path_no 2 hE (by decide) B.out
  case inl =>
    rw [h0] at hr
    subst hr
    have FE : Hid (pathE K T leaf = if 0 ≤ leaf ∧ leaf < n then 0 else 1) := Lib.hid (by unfold pathE; rw [if_pos h0, hn])
    have FL : Hid (pathE K T leaf = 0 → pathL K T leaf = path ((n + leaf.toNat) / 2)) := Lib.hid fun e => by unfold pathL; rw [if_pos e, hn]
    have hK2 : n ≤ 256 := by rw [hn]; exact hK.2
    clear h hn hm t0 bx hW0 h0 hK hT
    go_enter Try.func17, Try.ntmps17
    go_wp2_with fail
    rw [← HW0.out]
    refine HC.out.mono ?_
    rintro e w1 ⟨rfl, b1⟩
    have hB1 := T0.out.trans (b1.mono T0.out.size)
    have bx1 := HBX.out.below b1
    have v0 : w1.cell? ⟨w.heap.size, 0, none⟩ = some (.slice p n c) := bx1.cell 0 (by simp)
    have v1 : w1.cell? ⟨w.heap.size, 1, none⟩ = some (.slice q m d) := bx1.cell 1 (by simp)
    have B1 := Lib.hid hB1
    clear b1 bx1 hB1 u0 u1
    by_cases hl : leaf < 0
    · have hE : pathE K T leaf = 1 := by rw [FE.out, if_neg (by omega)]
      go_wp2_with fail
      refine bodyPost_ret (v := .tuple #[.slice none 0 0, .int .i64 1]) (by simp [results, Try.results17, go_sem]) rfl ?_
      exact path_no 1 hE (by decide) B1.out
    · by_cases hl2 : leaf < (n : Int)
      · obtain ⟨i, rfl⟩ : ∃ i : Nat, leaf = (i : Int) := ⟨leaf.toNat, by omega⟩
        have hE : pathE K T (i : Int) = 0 := by rw [FE.out, if_pos (by omega)]
        have hL := FL.out hE
        rw [show ((i : Int)).toNat = i by omega] at hL
        have hin : i < n := by omega
        have tl : decide ((i : Int) < 0) = false := decide_eq_false hl
        have tl2 : decide (n ≤ i) = false := decide_eq_false (by omega)
        obtain ⟨w2, hw2⟩ : ∃ w2, w2 = w1.alloc (.cells #[.slice p n c, .slice q m d] 48) := ⟨_, rfl⟩
        have bx2 := Bx.new w1 #[.slice p n c, .slice q m d] 48
        rw [← hw2] at bx2
        have hB2 : Below w.heap.size w w2 := B1.out.trans (by rw [hw2]; exact (Below.refl _ _).alloc B1.out.size _)
        obtain ⟨w3, hw3⟩ : ∃ w3, w3 = (w2.alloc (.cells #[.pointer (some ⟨w1.heap.size, 0, none⟩)] 49)).alloc (.cells #[.int .i64 (i : Nat)] 3) := ⟨_, rfl⟩
        have b3 : Below w2.heap.size w2 w3 := by rw [hw3]; exact ((Below.refl _ _).alloc (Nat.le_refl _) _).alloc (by simp) _
        have bxa := (Bx.new w2 #[.pointer (some ⟨w1.heap.size, 0, none⟩)] 49).below ((Below.refl _ _).alloc (Nat.le_refl _) (.cells #[.int .i64 (i : Nat)] 3))
        have bxb := Bx.new (w2.alloc (.cells #[.pointer (some ⟨w1.heap.size, 0, none⟩)] 49)) #[.int .i64 (i : Nat)] 3
        rw [← hw3] at bxa bxb
        rw [World.size_alloc] at bxb
        have bx3 := bx2.below b3
        have HCo := Lib.hid (collect_any (path ((n + i) / 2)) (path_short (by omega)) 43 #[.pointer (some ⟨w2.heap.size, 0, none⟩), .pointer (some ⟨w2.heap.size + 1, 0, none⟩)] w3 above_enters
          (fun W hW => above_stops w2.heap.size (w2.heap.size + 1) w1.heap.size n c ((n + i) / 2) i p W rfl hK2 hin (bxa.below hW).lt (bxb.below hW).lt (bx3.below hW).lt ((bxa.below hW).cell 0 (by simp)) ((bxb.below hW).cell 0 (by simp)) ((bx3.below hW).cell 0 (by simp))))
        have HB3 := Lib.hid (hB2.trans (b3.mono hB2.size))
        have HW2 := Lib.hid hw2; have HW3 := Lib.hid hw3
        have HAb : Hid (Calls Try.prog 36 #[.pointer (some ⟨w1.heap.size, 0, none⟩), .int .i64 (i : Nat)] w2 fun e w' => e = .returned (.func (.func 43) #[] #[.pointer (some ⟨w2.heap.size, 0, none⟩), .pointer (some ⟨w2.heap.size + 1, 0, none⟩)]) ∧ w3 = w') :=
          Lib.hid ((above_any w2 _ _).mono fun e w' ⟨h1, h2⟩ => ⟨h1, by rw [hw3]; exact h2⟩)
        clear hw2 hw3 bx2 bxa bxb bx3 b3 hB2 hl hl2 hin
        go_wp2_with fail
        rw [← HW2.out]
        refine HAb.out.mono ?_
        rintro e w' ⟨rfl, rfl⟩
        go_wp2_with fail
        refine HCo.out.mono ?_
        rintro e w4 ⟨v, rfl, hrow, hb⟩
        obtain ⟨q', c', rfl, hrd⟩ := own_rd hrow
        have F : Hid (PathP w K T (i : Int) (.returned (.tuple #[.slice q' (path ((n + i) / 2)).length c', .int .i64 0])) w4) := Lib.hid ⟨q', c', by rw [hL, hE], by rw [hL]; exact hrd, HB3.out.trans (hb.mono HB3.out.size)⟩
        clear hrow hrd hb
        go_wp2_with fail
        refine bodyPost_ret (v := .tuple #[.slice q' (path ((n + i) / 2)).length c', .int .i64 0]) (by simp [results, Try.results17, go_sem]) rfl ?_
        exact F.out
      · have hE : pathE K T leaf = 1 := by rw [FE.out, if_neg (by omega)]
        go_wp2_with fail
        refine bodyPost_ret (v := .tuple #[.slice none 0 0, .int .i64 1]) (by simp [results, Try.results17, go_sem]) rfl ?_
        exact path_no 1 hE (by decide) B1.out
end
end Go.Proofs.Ythkgdjclgphodaa.Ls
