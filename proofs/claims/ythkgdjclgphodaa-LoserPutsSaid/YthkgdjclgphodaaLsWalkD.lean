/- The walks of Check, the program's; of winner, best, isEmpty. -/
import Derived.Test.YthkgdjclgphodaaLsWalkC
namespace Go.Proofs.Ythkgdjclgphodaa.Ls
open Go.RowKit Rw Nm

/-- what Check tells -/
def chk (K : Keys) (T : List Int) : Int := if (1 ≤ K.length ∧ K.length ≤ 256) ∧ T = up (build K) then 0 else 2
/-- a tree, as it is read -/
structure LsAt (w : World) (p : Option Addr) (K : Keys) (q : Option Addr) (T : List Int) : Prop where
  keys : RecsAt w p K
  tree : Rd w q (zs T)
  many : K.length ≤ 9223372036854775807
  long : T.length ≤ 9223372036854775807
theorem LsAt.below {w w' : World} {p q : Option Addr} {K : Keys} {T : List Int} (h : LsAt w p K q T) (hb : Below w.heap.size w w') : LsAt w' p K q T := ⟨h.keys.below hb, h.tree.below hb, h.many, h.long⟩
theorem ret_i {a b : Int} (h : a = b) : Ending.returned (.int .i64 a) = .returned (.int .i64 b) := by rw [h]

section
variable {K : Keys} {T : List Int} {p q : Option Addr} {c d : Nat} {w : World}
set_option maxHeartbeats 4000000 in
set_option maxRecDepth 100000 in
theorem check_any (h : LsAt w p K q T) :
    Calls Try.prog 21 #[.agg #[.slice p K.length c, .slice q T.length d]] w fun e w' => e = .returned (.int .i64 (chk K T)) ∧ Below w.heap.size w w' := by
  obtain ⟨n, hn⟩ : ∃ n, n = K.length := ⟨_, rfl⟩
  obtain ⟨m, hm⟩ : ∃ m, m = T.length := ⟨_, rfl⟩
  rw [← hn, ← hm]
  obtain ⟨W0, hW0⟩ : ∃ W0, W0 = w.alloc (.cells #[.slice p n c, .slice q m d] 25) := ⟨_, rfl⟩
  have t0 : Below w.heap.size w W0 := by rw [hW0]; exact (Below.refl _ _).alloc (Nat.le_refl _) _
  have bx := Bx.new w #[.slice p n c, .slice q m d] 25
  rw [← hW0] at bx
  have hnK : n ≤ 9223372036854775807 := by rw [hn]; exact h.many
  have u0 : W0.cell? ⟨w.heap.size, 0, none⟩ = some (.slice p n c) := bx.cell 0 (by simp)
  by_cases hmany : 1 ≤ n ∧ n ≤ 256
  case neg =>
    have F : Hid (2 = chk K T) := Lib.hid (by unfold chk; rw [if_neg (fun h => hmany (by rw [hn]; exact h.1))])
    have HI : Hid (∀ W, Calls Try.prog 24 #[.int .i64 n] W fun e w' => e = .returned (.bool false) ∧ W = w') := Lib.hid fun W => by
      have := isMany_any n W hnK
      rwa [decide_eq_false hmany] at this
    have HT := Lib.hid t0; have HW0 := Lib.hid hW0
    clear t0 hmany hn hm h bx hW0
    go_enter Try.func21, Try.ntmps21
    go_wp2_with fail
    rw [← HW0.out]
    go_quiet ((go_at_call 24; exact quiet2 (fun k => HI.out _) _))
    go_wp2_with fail
    go_ret
    exact ⟨ret_i F.out, below_drewN HT.out nq⟩
  case pos =>
    have u1 : W0.cell? ⟨w.heap.size, 1, none⟩ = some (.slice q m d) := bx.cell 1 (by simp)
    have HI : Hid (∀ W, Calls Try.prog 24 #[.int .i64 n] W fun e w' => e = .returned (.bool true) ∧ W = w') := Lib.hid fun W => by
      have := isMany_any n W hnK
      rwa [decide_eq_true hmany] at this
    obtain ⟨BB, hBB⟩ : ∃ BB : World → Prop, BB = fun W => Below W0.heap.size W0 W := ⟨_, rfl⟩
    have hK : ∀ W, BB W → BB W ∧ W.cell? ⟨w.heap.size, 0, none⟩ = some (.slice p n c) ∧ W.cell? ⟨w.heap.size, 1, none⟩ = some (.slice q m d) := by
      intro W h
      refine ⟨h, ?_⟩
      rw [hBB] at h
      exact ⟨(bx.below h).cell 0 (by simp), (bx.below h).cell 1 (by simp)⟩
    have hL : ∀ W W' : World, BB W → Below W.heap.size W W' → BB W' := by
      intro W W' h hb
      rw [hBB] at h ⊢
      exact h.trans (hb.mono h.size)
    have hD : ∀ W, BB W → BB W.drew := fun W h => hL W _ h (Below.drew (Below.refl _ W))
    have hE : ∀ W, BB W → Below w.heap.size w W := by
      intro W h
      rw [hBB] at h
      exact t0.trans (h.mono t0.size)
    have hB : ∀ W, BB W → Calls Try.prog 26 #[.slice p n c] W fun e w' => ∃ g, e = .returned (.slice (some ⟨g, 0, none⟩) n n) ∧ Nums w' W.heap.size g n (build K) ∧ Below W.heap.size W w' := by
      intro W hW
      rw [hn] at hmany ⊢
      exact build_any hmany.1 hmany.2 (h.keys.below (hE W hW))
    obtain ⟨b, hb⟩ : ∃ b, b = decide (T = up (build K)) := ⟨_, rfl⟩
    have hQ : ∀ W B g, BB W → Nums W B g n (build K) → Calls Try.prog 37 #[.slice q m d, .slice (some ⟨g, 0, none⟩) n n] W fun e w' => e = .returned (.bool b) ∧ ∃ k, w' = W.drewN k := by
      intro W B g hW hN
      have := equal_any T (up (build K)) q (some ⟨g, 0, none⟩) d n W (h.tree.below (hE W hW)) hN.rd h.long (by rw [up_length, build_length, ← hn]; exact hnK)
      rw [up_length, build_length, ← hn, ← hm, ← hb] at this
      exact this
    have h0 : BB W0 := by rw [hBB]; exact Below.refl _ _
    have F : Hid ((if b = true then 0 else 2) = chk K T) := Lib.hid (by
      unfold chk
      rw [hb]
      by_cases e : T = up (build K)
      · rw [if_pos (by simpa using e), if_pos ⟨by rw [← hn]; exact hmany, e⟩]
      · rw [if_neg (by simpa using e), if_neg (fun h => e h.2)])
    have HK := Lib.hid hK; have HL := Lib.hid hL; have HD := Lib.hid hD; have HE := Lib.hid hE; have HB := Lib.hid hB; have HQ := Lib.hid hQ; have H0 := Lib.hid h0; have HW0 := Lib.hid hW0
    clear hK hL hD hE hB hQ h0 hBB hmany hn hm h bx hW0 t0 u0 u1 hb
    go_enter Try.func21, Try.ntmps21
    go_wp2_with fail
    rw [← HW0.out]
    go_region_held3 (fun W => BB W ∧ W.cell? ⟨w.heap.size, 0, none⟩ = some (.slice p n c) ∧ W.cell? ⟨w.heap.size, 1, none⟩ = some (.slice q m d)) ((refine HK.out _ ?_; repeat (first | exact H0.out | assumption | apply HD.out))) (first
      | (go_at_call 24; ((with_reducible refine (HI.out _).mono ?_)); rintro e w' ⟨rfl, rfl⟩)
      | (go_at_call 26; ((with_reducible refine (HB.out _ (by repeat (first | exact H0.out | assumption | apply HD.out))).mono ?_)); rintro e w' ⟨g, rfl, hnu, hb⟩; have hw := HL.out _ _ (by repeat (first | exact H0.out | assumption | apply HD.out)) hb; clear hb)
      | (go_at_call 37; ((with_reducible refine (HQ.out _ _ _ hw hnu).mono ?_)); rintro e w' ⟨rfl, k, rfl⟩; have hw2 := HL.out _ _ hw (below_drewN (Below.refl _ _) k)))
    cases b with
    | true =>
      all_goals go_wp2_with fail
      all_goals go_ret
      all_goals exact ⟨ret_i F.out, HE.out _ (by repeat (first | exact H0.out | assumption | apply HD.out))⟩
    | false =>
      all_goals go_wp2_with fail
      all_goals go_ret
      all_goals exact ⟨ret_i F.out, HE.out _ (by repeat (first | exact H0.out | assumption | apply HD.out))⟩
end
end Go.Proofs.Ythkgdjclgphodaa.Ls
