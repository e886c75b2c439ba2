/- The walks of Top and Path; what they answer. -/
import Derived.Test.YthkgdjclgphodaaLsPutB
namespace Go.Proofs.Ythkgdjclgphodaa.Ls
open Go.RowKit Rw Nm

def Kb (K : Keys) : Prop := ∀ i, i < K.length → (K.getD i []).length ≤ 17592186044416
theorem chk_cases (K : Keys) (T : List Int) : (chk K T = 0 ∧ (1 ≤ K.length ∧ K.length ≤ 256) ∧ T = up (build K)) ∨ chk K T = 2 := by
  unfold chk
  split
  · rename_i h; exact .inl ⟨rfl, h⟩
  · exact .inr rfl
def topE (K : Keys) (T : List Int) : Int := if chk K T = 0 then (if kat K (wn K 1) = [] then 3 else 0) else 2
def topI (K : Keys) (T : List Int) : Int := if topE K T = 0 then (wn K 1 : Nat) else 0
def topK (K : Keys) (T : List Int) : List Nat := if topE K T = 0 then kat K (wn K 1) else []
def TopP (w : World) (K : Keys) (T : List Int) (e : Ending) (w' : World) : Prop :=
  ∃ (q : Option Addr) (c : Nat), e = .returned (.tuple #[.int .i64 (topI K T), .slice q (topK K T).length c, .int .i64 (topE K T)]) ∧ Rd w' q (nums (topK K T)) ∧ Below w.heap.size w w'
theorem top_no {w w' : World} {K : Keys} {T : List Int} (r : Int) (h : topE K T = r) (h0 : r ≠ 0) (hb : Below w.heap.size w w') : TopP w K T (.returned (.tuple #[.int .i64 0, .slice none 0 0, .int .i64 r])) w' := by
  have h1 : topE K T ≠ 0 := by rw [h]; exact h0
  have e1 : topI K T = 0 := if_neg h1
  have e2 : topK K T = [] := if_neg h1
  exact ⟨none, 0, by rw [e1, e2, h]; rfl, by rw [e2]; exact Rd.nil _ _, hb⟩

section
variable {K : Keys} {T : List Int} {p q : Option Addr} {c d : Nat} {w : World}
/-- a right tree, in a box of the call's own: what winner, best and isEmpty read -/
theorem box_reads {n m i g : Nat} (h : LsAt w p K q T) (hT : T = up (build K)) (h1 : 1 ≤ K.length) (hn : n = K.length) (hm : m = T.length) (hi : i = wn K 1) (hb : Bx w g [.slice p n c, .slice q m d]) :
    ∃ (a : Addr) (b : Addr) (qk : Option Addr) (dk : Nat), p = some a ∧ q = some b ∧ n = m ∧ i < n ∧ w.cell? ⟨g, 0, none⟩ = some (.slice (some a) n c) ∧ w.cell? ⟨g, 1, none⟩ = some (.slice (some b) m d) ∧ w.cell? b = some (.int .i64 (i : Nat)) ∧ w.cell? (a.add i) = some (.slice qk (kat K i).length dk) ∧ Rd w qk (nums (kat K i)) := by
  have hik : i < K.length := by rw [hi]; exact wn_lt (by omega) (by omega)
  obtain ⟨a, qk, dk, rfl, _, hc, hr, hl⟩ := h.keys i hik
  have hnm : n = m := by rw [hn, hm, hT, up_length, build_length]
  obtain ⟨b, rfl, cb⟩ := rd_z h.tree 0 (by rw [hT, up_length, build_length]; omega)
  have e0 : T.getD 0 0 = (i : Nat) := by rw [hT, up_getD _ _ (by rw [build_length]; omega), build_get K 0 (by omega), if_pos rfl, hi]
  rw [e0, add_zero'] at cb
  exact ⟨a, b, qk, dk, rfl, rfl, hnm, by rw [hn]; exact hik, hb.cell 0 (by simp), hb.cell 1 (by simp), cb, hc, hr⟩
set_option maxHeartbeats 4000000 in
set_option maxRecDepth 100000 in
theorem top_any (h : LsAt w p K q T) (hkb : Kb K) :
    Calls Try.prog 13 #[.agg #[.slice p K.length c, .slice q T.length d]] w fun e w' => TopP w K T e w' := by
  obtain ⟨n, hn⟩ : ∃ n, n = K.length := ⟨_, rfl⟩
  obtain ⟨m, hm⟩ : ∃ m, m = T.length := ⟨_, rfl⟩
  obtain ⟨W0, hW0⟩ : ∃ W0, W0 = w.alloc (.cells #[.slice p n c, .slice q m d] 25) := ⟨_, rfl⟩
  have t0 : Below w.heap.size w W0 := by rw [hW0]; exact (Below.refl _ _).alloc (Nat.le_refl _) _
  have bx := Bx.new w #[.slice p n c, .slice q m d] 25
  rw [← hW0] at bx
  obtain ⟨r, hr⟩ : ∃ r, r = chk K T := ⟨_, rfl⟩
  have HC := Lib.hid (check_any (c := c) (d := d) (h.below t0))
  rw [← hr] at HC
  rw [← hn, ← hm] at HC ⊢
  have u0 : W0.cell? ⟨w.heap.size, 0, none⟩ = some (.slice p n c) := bx.cell 0 (by simp)
  have u1 : W0.cell? ⟨w.heap.size, 1, none⟩ = some (.slice q m d) := bx.cell 1 (by simp)
  have T0 := Lib.hid t0; have HW0 := Lib.hid hW0; have HBX := Lib.hid bx
  rcases chk_cases K T with ⟨h0, hK, hT⟩ | h2
  case inr =>
    rw [h2] at hr
    subst hr
    have hE : topE K T = 2 := by unfold topE; rw [h2]; rfl
    clear h hkb hn hm t0 bx h2 hW0
    go_enter Try.func13, Try.ntmps13
    go_wp2_with fail
    rw [← HW0.out]
    refine HC.out.mono ?_
    rintro e w1 ⟨rfl, b1⟩
    have B := Lib.hid (T0.out.trans (b1.mono T0.out.size))
    clear b1
    go_wp2_with fail
    refine bodyPost_ret (v := .tuple #[.int .i64 0, .slice none 0 0, .int .i64 2]) (by simp [results, Try.results13, go_sem]) rfl ?_
    exact top_no 2 hE (by decide) B.out
  case inl =>
    rw [h0] at hr
    subst hr
    obtain ⟨i, hi⟩ : ∃ i, i = wn K 1 := ⟨_, rfl⟩
    have HLS : Hid (∀ W, Below w.heap.size w W → LsAt W p K q T) := Lib.hid fun W hW => h.below hW
    have HR := Lib.hid (fun W g (hW : Below w.heap.size w W) (hb : Bx W g [.slice p n c, .slice q m d]) => box_reads (HLS.out W hW) hT hK.1 hn hm hi hb)
    have HKI := Lib.hid (hkb i (by rw [hi]; exact wn_lt (by omega) (by omega)))
    have FE : Hid (topE K T = if kat K i = [] then 3 else 0) := Lib.hid (by unfold topE; rw [if_pos h0, ← hi])
    have FI : Hid (topE K T = 0 → topI K T = (i : Nat) ∧ topK K T = kat K i) := Lib.hid fun e => by unfold topI topK; rw [if_pos e, if_pos e, ← hi]; exact ⟨rfl, rfl⟩
    clear h hkb hn hm t0 bx hW0 h0 hK hT hi HLS
    go_enter Try.func13, Try.ntmps13
    go_wp2_with fail
    rw [← HW0.out]
    refine HC.out.mono ?_
    rintro e w1 ⟨rfl, b1⟩
    have hB1 := T0.out.trans (b1.mono T0.out.size)
    have bx1 := HBX.out.below b1
    have v0 : w1.cell? ⟨w.heap.size, 0, none⟩ = some (.slice p n c) := bx1.cell 0 (by simp)
    have v1 : w1.cell? ⟨w.heap.size, 1, none⟩ = some (.slice q m d) := bx1.cell 1 (by simp)
    obtain ⟨w2, hw2⟩ : ∃ w2, w2 = w1.alloc (.cells #[.slice p n c, .slice q m d] 48) := ⟨_, rfl⟩
    have bx2 := Bx.new w1 #[.slice p n c, .slice q m d] 48
    rw [← hw2] at bx2
    have hB2 : Below w.heap.size w w2 := hB1.trans (by rw [hw2]; exact (Below.refl _ _).alloc hB1.size _)
    obtain ⟨a, b, qk, dk, ea, eb, hnm, hin, z0, z1, z2, z3, z4⟩ := HR.out w2 _ hB2 bx2
    obtain ⟨x, hx⟩ : ∃ x, x = kat K i := ⟨_, rfl⟩
    rw [← hx] at z3 z4 FE FI
    have HE := Lib.hid (isEmpty_any z0 z1 (by omega) z2 hin z3)
    have HBe : Hid (∀ j, Calls Try.prog 32 #[.pointer (some ⟨w1.heap.size, 0, none⟩)] (w2.drewN j) fun e w' => e = .returned (.slice qk x.length dk) ∧ ∃ n, w' = (w2.drewN j).drewN n) :=
      Lib.hid fun j => best_any (by simpa using z0) (by simpa using z1) (by omega) (by simpa using z2) hin (by simpa using z3)
    have HWi : Hid (∀ j, Calls Try.prog 30 #[.pointer (some ⟨w1.heap.size, 0, none⟩)] (w2.drewN j) fun e w' => e = .returned (.int .i64 (i : Nat)) ∧ w2.drewN j = w') :=
      Lib.hid fun j => winner_any (by simpa using z1) (by omega) (by simpa using z2)
    have HCl : Hid (∀ j, Calls Try.prog 31 #[.slice qk x.length dk] (w2.drewN j) fun e w' => ∃ q' c', e = .returned (.slice q' x.length c') ∧ Rd w' q' (nums x) ∧ NewAt (w2.drewN j).heap.size q' ∧ Below (w2.drewN j).heap.size (w2.drewN j) w') :=
      Lib.hid fun j => cloneU_any x qk dk _ (z4.drewN j) (by rw [hx]; exact HKI.out)
    have HB2 : Hid (∀ j, Below w.heap.size w (w2.drewN j)) := Lib.hid fun j => below_drewN hB2 j
    have HW2 := Lib.hid hw2
    obtain ⟨lx, hlx⟩ : ∃ lx, lx = x.length := ⟨_, rfl⟩
    rw [← hlx] at HE HBe HCl
    clear b1 hB1 bx1 bx2 hB2 hw2 z0 z1 z2 z3 z4 ea eb hnm hin hx u0 u1
    by_cases hx0 : lx = 0
    · have hE : topE K T = 3 := by rw [FE.out, if_pos (List.length_eq_zero_iff.1 (by omega))]
      have t : decide (lx = 0) = true := decide_eq_true hx0
      clear hlx hx0 HBe HWi HCl FI
      go_wp2_with fail
      rw [← HW2.out]
      refine HE.out.mono ?_
      rintro e w3 ⟨rfl, j, rfl⟩
      go_wp2_with fail
      refine bodyPost_ret (v := .tuple #[.int .i64 0, .slice none 0 0, .int .i64 3]) (by simp [results, Try.results13, go_sem]) rfl ?_
      exact top_no 3 hE (by decide) (HB2.out _)
    · have hE : topE K T = 0 := by rw [FE.out, if_neg (fun e => hx0 (by rw [hlx, e]; rfl))]
      have t : decide (lx = 0) = false := decide_eq_false hx0
      have HLX := Lib.hid hlx
      clear hlx hx0
      go_wp2_with fail
      rw [← HW2.out]
      refine HE.out.mono ?_
      rintro e w3 ⟨rfl, j, rfl⟩
      go_wp2_with fail
      refine (HWi.out _).mono ?_
      rintro e w3 ⟨rfl, rfl⟩
      go_wp2_with fail
      refine (HBe.out _).mono ?_
      rintro e w3 ⟨rfl, j2, rfl⟩
      go_wp2_with fail
      refine (HCl.out _).mono ?_
      rintro e w3 ⟨q', c', rfl, hr, _, hb⟩
      have F : Hid (TopP w K T (.returned (.tuple #[.int .i64 (i : Nat), .slice q' lx c', .int .i64 0])) w3) := Lib.hid (by
        obtain ⟨e1, e2⟩ := FI.out hE
        refine ⟨q', c', by rw [e1, e2, hE, HLX.out], by rw [e2]; exact hr, (HB2.out _).trans (hb.mono (HB2.out _).size)⟩)
      clear hr hb
      go_wp2_with fail
      refine bodyPost_ret (v := .tuple #[.int .i64 (i : Nat), .slice q' lx c', .int .i64 0]) (by simp [results, Try.results13, go_sem]) rfl ?_
      exact F.out
end
end Go.Proofs.Ythkgdjclgphodaa.Ls
