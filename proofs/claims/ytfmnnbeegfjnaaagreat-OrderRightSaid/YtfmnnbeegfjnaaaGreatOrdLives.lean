/- The walk of lives. -/
import Derived.Test.YtfmnnbeegfjnaaaGreatOrdProg
import Derived.Test.YtfmnnbeegfjnaaaGreatSameN
namespace Go.Proofs.YtfmnnbeegfjnaaaGreat.Od
open Go.RowKit Go.Lib Rw Ls _root_.Go.Proofs.YtfmnnbeegfjnaaaGreat.Nm

/-- PlacesP, its length a number -/
def Pl (W : World) (n : Nat) (L : List Nat) (r : Int) (e : Ending) (w' : World) : Prop := ∃ (q : Option Addr) (c : Nat), e = .returned (.tuple #[.slice q n c, .int .i64 r]) ∧ n ≤ c ∧ Rd w' q (zs (up L)) ∧ Below W.heap.size W w'
def Nu (W : World) (n : Nat) (L : List Nat) (e : Ending) (w' : World) : Prop := ∃ (q : Option Addr) (c : Nat), e = .returned (.slice q n c) ∧ n ≤ c ∧ Rd w' q (nums L) ∧ Below W.heap.size W w'
theorem pl_of {W : World} {n : Nat} {L : List Nat} {r : Int} (h : L.length = n) {f : FuncId} {a : Array Value} {P : Program} (hc : Calls P f a W (PlacesP W L r)) : Calls P f a W (Pl W n L r) :=
  hc.mono fun _ _ ⟨q, c, e, h1, h2, _, _, h4⟩ => ⟨q, c, by rw [e, h], by rw [← h]; exact h1, h2, h4⟩
theorem nu_of {W : World} {n : Nat} {L : List Nat} (h : L.length = n) {f : FuncId} {a : Array Value} {P : Program} (hc : Calls P f a W (NumsP W L)) : Calls P f a W (Nu W n L) :=
  hc.mono fun _ _ ⟨q, c, e, h1, h2, _, h4⟩ => ⟨q, c, by rw [e, h], by rw [← h]; exact h1, h2, h4⟩
theorem same_at {w : World} {M N : List Nat} {p q : Option Addr} {c d m n : Nat} (hm : M.length = m) (hn : N.length = n) (hp : Rd w p (zs (up M))) (hq : Rd w q (zs (up N))) (hx : m ≤ 17592186044416) (hy : n ≤ 17592186044416) :
    Calls Tryz.prog 16 #[.slice p m c, .slice q n d] w fun e w' => e = .returned (.bool (decide (M = N))) ∧ ∃ n, w' = w.drewN n := by
  have h := samenum_any (up M) (up N) p q c d w hp hq (by rw [up_length]; omega) (by rw [up_length]; omega)
  have e : decide (up M = up N) = decide (M = N) := by
    by_cases h : M = N
    · rw [h]; simp
    · rw [decide_eq_false h, decide_eq_false (fun h2 => h (up_inj h2))]
  rw [up_length, up_length, hm, hn, e] at h
  exact h
def ban : List Nat := [98, 97, 110, 97, 110, 97]
theorem ban_is : bsN ⟨#[98, 97, 110, 97, 110, 97]⟩ = ban := rfl
theorem lit_is : bsN ⟨#[97, 110, 110, 98, 97, 97]⟩ = [97, 110, 110, 98, 97, 97] := rfl
theorem ends_ban : ends ban = [5, 3, 1, 0, 4, 2] := by decide
theorem col_ban : ofN (col ban) = ⟨#[97, 110, 110, 98, 97, 97]⟩ ∧ prim ban = 4 := ⟨by decide, by decide⟩
theorem txt_ban : txtS [97, 110, 110, 98, 97, 97] 4 = ⟨#[98, 97, 110, 97, 110, 97]⟩ ∧ txtE [97, 110, 110, 98, 97, 97] 4 = 0 ∧ txtE [97, 110, 110, 98, 97, 97] 0 = 7 ∧ txtS [97, 110, 110, 98, 97, 97] 0 = ⟨#[]⟩ := ⟨by decide, by decide, by decide, by decide⟩
theorem right_ban : right ban (up [5, 3, 1, 0, 4, 2]) = true ∧ right ban (up [1, 2, 0]) = false := ⟨by decide, by decide⟩
theorem com_ban : comL ban (up [5, 3, 1, 0, 4, 2]) = [0, 1, 3, 0, 0, 2] ∧ comE ban (up [5, 3, 1, 0, 4, 2]) = 0 := ⟨by decide, by decide⟩
theorem inv_ban : invL (up [2, 0, 1]) = [1, 2, 0] ∧ invE (up [2, 0, 1]) = 0 ∧ invL (up [1, 1]) = [] ∧ invE (up [1, 1]) = 2 := ⟨by decide, by decide, by decide, by decide⟩
theorem zs_lit (L : List Nat) (w : World) (t : TypeId) : Rd (w.alloc (.cells (zs (up L)).toArray t)) (some ⟨w.heap.size, 0, none⟩) (zs (up L)) := by
  have := Rd.new w (zs (up L)).toArray t
  simpa using this
set_option maxHeartbeats 4000000 in
set_option maxRecDepth 100000 in
theorem lives_any (w : World) : Calls Tryz.prog 9 #[] w fun e w' => e = .returned (.bool true) ∧ Below w.heap.size w w' := by
  have CN : Hid (∀ W, Calls Tryz.prog 28 #[.string ⟨#[98, 97, 110, 97, 110, 97]⟩] W (Nu W 6 ban)) := Lib.hid (fun W => by
    have h := numbers_any ⟨#[98, 97, 110, 97, 110, 97]⟩ W (by decide)
    rw [ban_is] at h
    exact nu_of rfl h)
  have CE : Hid (∀ q c W, Rd W q (nums ban) → 6 ≤ c → Calls Tryz.prog 10 #[.slice q 6 c] W (Pl W 6 [5, 3, 1, 0, 4, 2] 0)) := Lib.hid (fun q c W h1 h2 => by
    have h := pends_any ban q c W h1 h2 (by decide)
    rw [ends_ban] at h
    exact pl_of rfl h)
  have CC : Hid (∀ W, Calls Tryz.prog 19 #[.string ⟨#[98, 97, 110, 97, 110, 97]⟩] W fun e w' => e = .returned (.tuple #[.string ⟨#[97, 110, 110, 98, 97, 97]⟩, .int .i64 4, .int .i64 0]) ∧ Below W.heap.size W w') := Lib.hid (fun W => by
    have h := pcolumn_any ⟨#[98, 97, 110, 97, 110, 97]⟩ W (by decide)
    rw [ban_is, col_ban.1, col_ban.2] at h
    exact h)
  have CT : Hid (∀ W, Calls Tryz.prog 21 #[.string ⟨#[97, 110, 110, 98, 97, 97]⟩, .int .i64 4] W fun e w' => e = .returned (.tuple #[.string ⟨#[98, 97, 110, 97, 110, 97]⟩, .int .i64 0]) ∧ Below W.heap.size W w') := Lib.hid (fun W => by
    have h := ptext_any ⟨#[97, 110, 110, 98, 97, 97]⟩ 4 W (by decide)
    rw [lit_is, txt_ban.1, txt_ban.2.1] at h
    exact h)
  have CT0 : Hid (∀ W, Calls Tryz.prog 21 #[.string ⟨#[97, 110, 110, 98, 97, 97]⟩, .int .i64 0] W fun e w' => e = .returned (.tuple #[.string ⟨#[]⟩, .int .i64 7]) ∧ Below W.heap.size W w') := Lib.hid (fun W => by
    have h := ptext_any ⟨#[97, 110, 110, 98, 97, 97]⟩ 0 W (by decide)
    rw [lit_is, txt_ban.2.2.1, txt_ban.2.2.2] at h
    exact h)
  have CO : Hid (∀ p c q d W, Rd W p (nums ban) → Rd W q (zs (up [5, 3, 1, 0, 4, 2])) → 6 ≤ c → Calls Tryz.prog 14 #[.slice p 6 c, .slice q 6 d] W (Pl W 6 [0, 1, 3, 0, 0, 2] 0)) := Lib.hid (fun p c q d W h1 h2 h3 => by
    have h := pcommon_any ban (up [5, 3, 1, 0, 4, 2]) p q c d W h1 h2 h3 (by decide) (by decide)
    rw [com_ban.1, com_ban.2] at h
    exact pl_of rfl h)
  have CI : Hid (∀ p c W, Rd W p (zs (up [2, 0, 1])) → Calls Tryz.prog 12 #[.slice p 3 c] W (Pl W 3 [1, 2, 0] 0)) := Lib.hid (fun p c W h1 => by
    have h := pinverse_any (up [2, 0, 1]) p c W h1 (by decide)
    rw [inv_ban.1, inv_ban.2.1] at h
    exact pl_of rfl h)
  have CJ : Hid (∀ p c W, Rd W p (zs (up [1, 1])) → Calls Tryz.prog 12 #[.slice p 2 c] W (Pl W 0 [] 2)) := Lib.hid (fun p c W h1 => by
    have h := pinverse_any (up [1, 1]) p c W h1 (by decide)
    rw [inv_ban.2.2.1, inv_ban.2.2.2] at h
    exact pl_of rfl h)
  have CR : Hid (∀ p c q d W, Rd W p (nums ban) → Rd W q (zs (up [5, 3, 1, 0, 4, 2])) → 6 ≤ c → Calls Tryz.prog 17 #[.slice p 6 c, .slice q 6 d] W fun e w' => e = .returned (.bool true) ∧ Below W.heap.size W w') := Lib.hid (fun p c q d W h1 h2 h3 => by
    have h := pright_any ban (up [5, 3, 1, 0, 4, 2]) p q c d W h1 h2 h3 (by decide) (by decide)
    rw [right_ban.1] at h
    exact h)
  have CR0 : Hid (∀ p c q d W, Rd W p (nums ban) → Rd W q (zs (up [1, 2, 0])) → 6 ≤ c → Calls Tryz.prog 17 #[.slice p 6 c, .slice q 3 d] W fun e w' => e = .returned (.bool false) ∧ Below W.heap.size W w') := Lib.hid (fun p c q d W h1 h2 h3 => by
    have h := pright_any ban (up [1, 2, 0]) p q c d W h1 h2 h3 (by decide) (by decide)
    rw [right_ban.2] at h
    exact h)
  have CS : Hid (∀ (L : List Nat) (n : Nat), L.length = n → n ≤ 6 → ∀ p c q d W, Rd W p (zs (up L)) → Rd W q (zs (up L)) → Calls Tryz.prog 16 #[.slice p n c, .slice q n d] W fun e w' => e = .returned (.bool true) ∧ Below W.heap.size W w') := Lib.hid (fun L n hl hn p c q d W h1 h2 => by
    have h := same_at (c := c) (d := d) hl hl h1 h2 (by omega) (by omega)
    rw [decide_eq_true rfl] at h
    exact h.mono fun e w' ⟨h1, j, h2⟩ => ⟨h1, by rw [h2]; exact below_drewN (Below.refl _ _) j⟩)
  have B : Hid (Below w.heap.size w w) := Lib.hid (Below.refl _ _)
  go_enter Tryz.func9, Tryz.ntmps9
  go_wp2_with fail
  refine (CN.out _).mono ?_
  rintro e w0 ⟨q1, c1, rfl, h1, r1, b⟩
  replace B := Lib.hid (B.out.trans (b.mono B.out.size))
  have R1 := Lib.hid r1
  clear b r1
  go_wp2_with fail
  refine (CE.out _ _ _ R1.out h1).mono ?_
  rintro e w1 ⟨q2, c2, rfl, _, r2, b⟩
  replace R1 := Lib.hid (R1.out.below b)
  replace B := Lib.hid (B.out.trans (b.mono B.out.size))
  have R2 := Lib.hid r2
  clear b r2
  go_wp2_with fail
  refine (CC.out _).mono ?_
  rintro e w2 ⟨rfl, b⟩
  replace R1 := Lib.hid (R1.out.below b)
  replace R2 := Lib.hid (R2.out.below b)
  replace B := Lib.hid (B.out.trans (b.mono B.out.size))
  clear b
  go_wp2_with fail
  refine (CT.out _).mono ?_
  rintro e w3 ⟨rfl, b⟩
  replace R1 := Lib.hid (R1.out.below b)
  replace R2 := Lib.hid (R2.out.below b)
  replace B := Lib.hid (B.out.trans (b.mono B.out.size))
  clear b
  go_wp2_with fail
  refine (CO.out _ _ _ _ _ R1.out R2.out h1).mono ?_
  rintro e w4 ⟨q3, c3, rfl, _, r3, b⟩
  replace R1 := Lib.hid (R1.out.below b)
  replace R2 := Lib.hid (R2.out.below b)
  replace B := Lib.hid (B.out.trans (b.mono B.out.size))
  have R3 := Lib.hid r3
  clear b r3
  go_wp2_with fail
  refine (CI.out _ _ _ (zs_lit [2, 0, 1] _ _)).mono ?_
  rintro e w5 ⟨q4, c4, rfl, _, r4, b⟩
  replace R1 := Lib.hid ((R1.out.alloc _).below b)
  replace R2 := Lib.hid ((R2.out.alloc _).below b)
  replace R3 := Lib.hid ((R3.out.alloc _).below b)
  replace B := Lib.hid ((B.out.alloc (B.out.size) _).trans (b.mono (B.out.alloc (B.out.size) _).size))
  have R4 := Lib.hid r4
  clear b r4
  go_wp2_with fail
  refine (CJ.out _ _ _ (zs_lit [1, 1] _ _)).mono ?_
  rintro e w6 ⟨q5, c5, rfl, _, _, b⟩
  replace R1 := Lib.hid ((R1.out.alloc _).below b)
  replace R2 := Lib.hid ((R2.out.alloc _).below b)
  replace R3 := Lib.hid ((R3.out.alloc _).below b)
  replace R4 := Lib.hid ((R4.out.alloc _).below b)
  replace B := Lib.hid ((B.out.alloc (B.out.size) _).trans (b.mono (B.out.alloc (B.out.size) _).size))
  clear b
  go_wp2_with fail
  refine (CT0.out _).mono ?_
  rintro e w7 ⟨rfl, b⟩
  replace R1 := Lib.hid (R1.out.below b)
  replace R2 := Lib.hid (R2.out.below b)
  replace R3 := Lib.hid (R3.out.below b)
  replace R4 := Lib.hid (R4.out.below b)
  replace B := Lib.hid (B.out.trans (b.mono B.out.size))
  clear b
  go_wp2_with fail
  refine (CS.out [5, 3, 1, 0, 4, 2] 6 rfl (by decide) _ _ _ _ _ (R2.out.alloc _) (zs_lit [5, 3, 1, 0, 4, 2] _ _)).mono ?_
  rintro e w8 ⟨rfl, b⟩
  replace R1 := Lib.hid ((R1.out.alloc _).below b)
  replace R2 := Lib.hid ((R2.out.alloc _).below b)
  replace R3 := Lib.hid ((R3.out.alloc _).below b)
  replace R4 := Lib.hid ((R4.out.alloc _).below b)
  replace B := Lib.hid ((B.out.alloc (B.out.size) _).trans (b.mono (B.out.alloc (B.out.size) _).size))
  clear b
  go_wp2_with fail
  refine (CS.out [0, 1, 3, 0, 0, 2] 6 rfl (by decide) _ _ _ _ _ (R3.out.alloc _) (zs_lit [0, 1, 3, 0, 0, 2] _ _)).mono ?_
  rintro e w9 ⟨rfl, b⟩
  replace R1 := Lib.hid ((R1.out.alloc _).below b)
  replace R2 := Lib.hid ((R2.out.alloc _).below b)
  replace R3 := Lib.hid ((R3.out.alloc _).below b)
  replace R4 := Lib.hid ((R4.out.alloc _).below b)
  replace B := Lib.hid ((B.out.alloc (B.out.size) _).trans (b.mono (B.out.alloc (B.out.size) _).size))
  clear b
  go_wp2_with fail
  refine (CS.out [1, 2, 0] 3 rfl (by decide) _ _ _ _ _ (R4.out.alloc _) (zs_lit [1, 2, 0] _ _)).mono ?_
  rintro e w10 ⟨rfl, b⟩
  replace R1 := Lib.hid ((R1.out.alloc _).below b)
  replace R2 := Lib.hid ((R2.out.alloc _).below b)
  replace R3 := Lib.hid ((R3.out.alloc _).below b)
  replace R4 := Lib.hid ((R4.out.alloc _).below b)
  replace B := Lib.hid ((B.out.alloc (B.out.size) _).trans (b.mono (B.out.alloc (B.out.size) _).size))
  clear b
  go_wp2_with fail
  refine (CR.out _ _ _ _ _ R1.out R2.out h1).mono ?_
  rintro e w11 ⟨rfl, b⟩
  replace R1 := Lib.hid (R1.out.below b)
  replace R2 := Lib.hid (R2.out.below b)
  replace R3 := Lib.hid (R3.out.below b)
  replace R4 := Lib.hid (R4.out.below b)
  replace B := Lib.hid (B.out.trans (b.mono B.out.size))
  clear b
  go_wp2_with fail
  refine (CR0.out _ _ _ _ _ R1.out R4.out h1).mono ?_
  rintro e w12 ⟨rfl, b⟩
  replace R1 := Lib.hid (R1.out.below b)
  replace R2 := Lib.hid (R2.out.below b)
  replace R3 := Lib.hid (R3.out.below b)
  replace R4 := Lib.hid (R4.out.below b)
  replace B := Lib.hid (B.out.trans (b.mono B.out.size))
  clear b
  go_wp2_with fail
  go_ret
  exact ⟨rfl, B.out⟩
end Go.Proofs.YtfmnnbeegfjnaaaGreat.Od
