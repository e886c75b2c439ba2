/- The walk of pack's lives. -/
import Derived.Test.YtbegngilbngnoaaPkProg
import Derived.Test.YtbegngilbngnoaaSameN
namespace Go.Proofs.Ytbegngilbngnoaa.Pk
open Go.RowKit Go.Lib Rw Ls Od _root_.Go.Proofs.Ytbegngilbngnoaa.Nm

/-- levels, put together item by item -/
def levS (W : Nat → Nat) (L : List Nat) : Nat → List Tr
  | 0 => L.map .lf
  | j + 1 => (prs (levS W L j)).foldl (fun l x => put (Tr.wt W) x l) (L.map .lf)
theorem lev_levS {W : Nat → Nat} {L : List Nat} (h : Up W L) : ∀ j, lev W L j = levS W L j
  | 0 => rfl
  | j + 1 => by rw [levS, ← lev_levS h j, puts_mrg _ (up_map h) (prs_up (lev_up h j))]; rfl
def lensS (ws : List Nat) (limit : Nat) : List Nat := (List.range ws.length).map fun i => if (lv ws).length < 2 then (if i ∈ lv ws then 1 else 0) else sum (Tr.cnt i) ((levS (wf ws) (lv ws) (limit - 1)).take (2 * (lv ws).length - 2))
theorem lens_S (ws : List Nat) (limit : Nat) : lens ws limit = lensS ws limit := by
  unfold lens lensS len
  rw [lev_levS (lv_up ws)]
def eg : List Nat := [1, 1, 2, 4]
theorem len_eg : lenR eg 15 = ([3, 3, 2, 1], 0) ∧ lenR eg 2 = ([2, 2, 2, 2], 0) ∧ lenR eg 1 = ([], 8) := by
  refine ⟨?_, ?_, ?_⟩
  · rw [lenR, if_pos (by decide), if_neg (by decide), lens_S]; kernel_rfl
  · rw [lenR, if_pos (by decide), if_neg (by decide), lens_S]; kernel_rfl
  · rw [lenR, if_pos (by decide), if_pos (by decide)]
theorem cost_eg : costR eg (up [3, 3, 2, 1]) = (14, 0) ∧ costR eg [] = (0, 5) := ⟨by decide, by decide⟩
theorem room_eg : roomR (up [3, 3, 2, 1]) 3 = (0, 0) := by decide
theorem same_at {w : World} {M N : List Nat} {p q : Option Addr} {c d m n : Nat} (hm : M.length = m) (hn : N.length = n) (hp : Rd w p (zs (up M))) (hq : Rd w q (zs (up N))) (hx : m ≤ 17592186044416) (hy : n ≤ 17592186044416) :
    Calls Try.prog 14 #[.slice p m c, .slice q n d] w fun e w' => e = .returned (.bool (decide (M = N))) ∧ Below w.heap.size w w' := by
  have h := samenum_any (up M) (up N) p q c d w hp hq (by rw [up_length]; omega) (by rw [up_length]; omega)
  have e : decide (up M = up N) = decide (M = N) := by
    by_cases h : M = N
    · rw [h]; simp
    · have h2 : up M ≠ up N := fun h3 => h (up_inj h3)
      rw [decide_eq_false h, decide_eq_false h2]
  rw [up_length, up_length, hm, hn, e] at h
  exact h.mono fun e w' (h : _ ∧ _) => ⟨h.1, by first | exact h.2 | (rw [h.2]; exact Below.refl _ _) | (obtain ⟨j, h3⟩ := h.2; rw [h3]; exact below_drewN (Below.refl _ _) j)⟩
set_option maxHeartbeats 4000000 in
set_option maxRecDepth 100000 in
theorem lives_any (w : World) : Calls Try.prog 7 #[] w fun e w' => e = .returned (.bool true) ∧ Below w.heap.size w w' := by
  have CA : Hid (∀ q c W, Rd W q (nums eg) → Calls Try.prog 8 #[.slice q 4 c, .int .i64 15] W (IEn W 4 [3, 3, 2, 1] 0)) := Lib.hid (fun q c W h => ien_of len_eg.1 rfl (plengths_any eg 15 q c W h (by decide)))
  have CB : Hid (∀ q c W, Rd W q (nums eg) → Calls Try.prog 8 #[.slice q 4 c, .int .i64 2] W (IEn W 4 [2, 2, 2, 2] 0)) := Lib.hid (fun q c W h => ien_of len_eg.2.1 rfl (plengths_any eg 2 q c W h (by decide)))
  have CC : Hid (∀ q c W, Rd W q (nums eg) → Calls Try.prog 8 #[.slice q 4 c, .int .i64 1] W (IEn W 0 [] 8)) := Lib.hid (fun q c W h => ien_of len_eg.2.2 rfl (plengths_any eg 1 q c W h (by decide)))
  have CD : Hid (∀ p c q d W, Rd W p (nums eg) → Rd W q (zs (up [3, 3, 2, 1])) → Calls Try.prog 10 #[.slice p 4 c, .slice q 4 d] W fun e w' => e = .returned (.tuple #[.int .u64 14, .int .i64 0]) ∧ Below W.heap.size W w') := Lib.hid (fun p c q d W h1 h2 => by
    have h := pcost_any eg (up [3, 3, 2, 1]) p q c d W h1 h2 (by decide) (by decide)
    rw [cost_eg.1] at h
    exact h)
  have CE : Hid (∀ p c q d W, Rd W p (nums eg) → Calls Try.prog 10 #[.slice p 4 c, .slice q 0 d] W fun e w' => e = .returned (.tuple #[.int .u64 0, .int .i64 5]) ∧ Below W.heap.size W w') := Lib.hid (fun p c q d W h1 => by
    have h := pcost_any eg [] p q c d W h1 (fun i hi => absurd hi (by simp [zs])) (by decide) (by decide)
    rw [cost_eg.2] at h
    exact h)
  have CF : Hid (∀ q d W, Rd W q (zs (up [3, 3, 2, 1])) → Calls Try.prog 12 #[.slice q 4 d, .int .i64 3] W fun e w' => e = .returned (.tuple #[.int .i64 0, .int .i64 0]) ∧ Below W.heap.size W w') := Lib.hid (fun q d W h1 => by
    have h := proom_any (up [3, 3, 2, 1]) 3 q d W h1 (by decide) (by decide)
    rw [room_eg] at h
    exact h)
  have CM : Hid (∀ (L : List Nat) (n : Nat), L.length = n → n ≤ 6 → ∀ p c q d W, Rd W p (zs (up L)) → Rd W q (zs (up L)) → Calls Try.prog 14 #[.slice p n c, .slice q n d] W fun e w' => e = .returned (.bool true) ∧ Below W.heap.size W w') := Lib.hid (fun L n hl hn p c q d W h1 h2 => by
    have h := same_at (c := c) (d := d) hl hl h1 h2 (by omega) (by omega)
    rw [decide_eq_true rfl] at h
    exact h)
  have B : Hid (Below w.heap.size w w) := Lib.hid (Below.refl _ _)
  go_enter Try.func7, Try.ntmps7
  have RE0 : Hid (Rd (w.alloc (.cells #[.int .u64 1, .int .u64 1, .int .u64 2, .int .u64 4] 28)) (some ⟨w.heap.size, 0, none⟩) (nums eg)) := Lib.hid (Rd.new w #[.int .u64 1, .int .u64 1, .int .u64 2, .int .u64 4] _)
  go_wp2_with fail
  refine (CA.out _ _ _ RE0.out).mono ?_
  rintro e w0 ⟨q1, c1, rfl, hc1, r1, b⟩
  replace B := Lib.hid ((B.out.alloc (B.out.size) _).trans (b.mono (B.out.alloc (B.out.size) _).size))
  have RE := Lib.hid (RE0.out.below b)
  have R1 := Lib.hid r1
  obtain ⟨a1, rfl, _⟩ := r1.form (by decide)
  clear b r1 RE0
  go_wp2_with fail
  refine (CB.out _ _ _ RE.out).mono ?_
  rintro e w1 ⟨q2, c2, rfl, hc2, r2, b⟩
  replace RE := Lib.hid (RE.out.below b)
  replace R1 := Lib.hid (R1.out.below b)
  replace B := Lib.hid (B.out.trans (b.mono B.out.size))
  have R2 := Lib.hid r2
  clear b r2
  go_wp2_with fail
  refine (CD.out _ _ _ _ _ RE.out R1.out).mono ?_
  rintro e w2 ⟨rfl, b⟩
  replace RE := Lib.hid (RE.out.below b)
  replace R1 := Lib.hid (R1.out.below b)
  replace R2 := Lib.hid (R2.out.below b)
  replace B := Lib.hid (B.out.trans (b.mono B.out.size))
  clear b
  go_wp2_with fail
  refine (CF.out _ _ _ R1.out).mono ?_
  rintro e w3 ⟨rfl, b⟩
  replace RE := Lib.hid (RE.out.below b)
  replace R1 := Lib.hid (R1.out.below b)
  replace R2 := Lib.hid (R2.out.below b)
  replace B := Lib.hid (B.out.trans (b.mono B.out.size))
  clear b
  go_wp2_with fail
  refine (CC.out _ _ _ RE.out).mono ?_
  rintro e w4 ⟨q4, c4, rfl, hc4, r4, b⟩
  replace RE := Lib.hid (RE.out.below b)
  replace R1 := Lib.hid (R1.out.below b)
  replace R2 := Lib.hid (R2.out.below b)
  replace B := Lib.hid (B.out.trans (b.mono B.out.size))
  clear b
  clear r4
  go_wp2_with fail
  refine (CE.out _ _ _ _ _ RE.out).mono ?_
  rintro e w5 ⟨rfl, b⟩
  replace RE := Lib.hid (RE.out.below b)
  replace R1 := Lib.hid (R1.out.below b)
  replace R2 := Lib.hid (R2.out.below b)
  replace B := Lib.hid (B.out.trans (b.mono B.out.size))
  clear b
  go_wp2_with fail
  refine (CM.out [3, 3, 2, 1] 4 rfl (by omega) _ _ _ _ _ (R1.out.alloc _) (Rd.new _ #[.int .i64 3, .int .i64 3, .int .i64 2, .int .i64 1] _)).mono ?_
  rintro e w6 ⟨rfl, b⟩
  replace RE := Lib.hid ((RE.out.alloc _).below b)
  replace R1 := Lib.hid ((R1.out.alloc _).below b)
  replace R2 := Lib.hid ((R2.out.alloc _).below b)
  replace B := Lib.hid ((B.out.alloc (B.out.size) _).trans (b.mono (B.out.alloc (B.out.size) _).size))
  clear b
  go_wp2_with fail
  refine (CM.out [2, 2, 2, 2] 4 rfl (by omega) _ _ _ _ _ (R2.out.alloc _) (Rd.new _ #[.int .i64 2, .int .i64 2, .int .i64 2, .int .i64 2] _)).mono ?_
  rintro e w7 ⟨rfl, b⟩
  replace RE := Lib.hid ((RE.out.alloc _).below b)
  replace R1 := Lib.hid ((R1.out.alloc _).below b)
  replace R2 := Lib.hid ((R2.out.alloc _).below b)
  replace B := Lib.hid ((B.out.alloc (B.out.size) _).trans (b.mono (B.out.alloc (B.out.size) _).size))
  clear b
  go_wp2_with fail
  go_ret
  exact ⟨rfl, B.out⟩
end Go.Proofs.Ytbegngilbngnoaa.Pk
