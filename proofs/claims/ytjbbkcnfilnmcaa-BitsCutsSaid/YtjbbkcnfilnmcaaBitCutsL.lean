/- The walk of the law BitsCuts. -/
import Derived.Test.YtjbbkcnfilnmcaaBitRCat
import Derived.Test.YtjbbkcnfilnmcaaBitCuts0
import Derived.Test.YtjbbkcnfilnmcaaBitRTop
import Derived.OpenShut
import Derived.Deep.Slices
import Derived.Deep.SlicePairs
import Derived.ChangeSame
namespace Go.Proofs.Ytjbbkcnfilnmcaa.Bt
open Go.RowKit

set_option maxHeartbeats 16000000 in
set_option maxRecDepth 100000 in
theorem cuts_law (s : ByteArray) (n : Int) (p : Option Addr) (cap : Nat) (M : Many) (a c : Int) (w : World) (hs : s.size ≤ maxLen) (hM : ManyAt w p M) (hMl : M.length ≤ maxLen) :
    Calls Try.prog 3 #[.agg #[.string s, .int .i64 n], .slice p M.length cap, .int .i64 a, .int .i64 c] w fun e w' => e = .returned (.bool true) ∧ Below w.heap.size w w' := by
  have hbx : Below w.heap.size w (w.alloc (.cells #[.string s, .int .i64 n] 23)) := (Below.refl _ _).alloc (Nat.le_refl _) _
  obtain ⟨L, hL⟩ : ∃ L, L = M.length := ⟨_, rfl⟩
  have HLL := Lib.hid hL; have HML := Lib.hid hMl
  obtain ⟨S1, hS1⟩ : ∃ z, z = catS s n M := ⟨_, rfl⟩
  obtain ⟨K1, hK1⟩ : ∃ z, z = catN s n M := ⟨_, rfl⟩
  obtain ⟨E1, hE1⟩ : ∃ z, z = catE s n M := ⟨_, rfl⟩
  obtain ⟨S2, hS2⟩ : ∃ z, z = cutS s n a c := ⟨_, rfl⟩
  obtain ⟨K2, hK2⟩ : ∃ z, z = cutN s n a c := ⟨_, rfl⟩
  obtain ⟨E2, hE2⟩ : ∃ z, z = cutE s n a c := ⟨_, rfl⟩
  obtain ⟨S3, hS3⟩ : ∃ z, z = turnS s n a := ⟨_, rfl⟩
  obtain ⟨K3, hK3⟩ : ∃ z, z = turnN s n a := ⟨_, rfl⟩
  obtain ⟨E3, hE3⟩ : ∃ z, z = turnE s n a := ⟨_, rfl⟩
  obtain ⟨N4, hN4⟩ : ∃ z, z = (onesN s n : Int) := ⟨_, rfl⟩
  obtain ⟨E4, hE4⟩ : ∃ z, z = chk s n := ⟨_, rfl⟩
  have HS1 := Lib.hid hS1; have HK1 := Lib.hid hK1; have HE1 := Lib.hid hE1; have HS2 := Lib.hid hS2; have HK2 := Lib.hid hK2; have HE2 := Lib.hid hE2; have HS3 := Lib.hid hS3; have HK3 := Lib.hid hK3; have HE3 := Lib.hid hE3; have HN4 := Lib.hid hN4; have HE4 := Lib.hid hE4
  clear hS1 hK1 hE1 hS2 hK2 hE2 hS3 hK3 hE3 hN4 hE4
  have hcat : ∀ W, ManyAt W p M → Calls Try.prog 10 #[.agg #[.string s, .int .i64 n], .slice p L cap] W fun e w' => e = .returned (.tuple #[.agg #[.string S1, .int .i64 K1], .int .i64 E1]) ∧ Below W.heap.size W w' := fun W hm => by rw [HLL.out, HS1.out, HK1.out, HE1.out]; exact cat_any s n p cap M W hs hm HML.out
  have hrcat : ∀ W, ManyAt W p M → Calls Try.prog 11 #[.agg #[.string s, .int .i64 n], .slice p L cap] W fun e w' => e = .returned (.tuple #[.agg #[.string S1, .int .i64 K1], .int .i64 E1]) ∧ Below W.heap.size W w' := fun W hm => by rw [HLL.out, HS1.out, HK1.out, HE1.out]; exact rcat_any s n p cap M W hs hm HML.out
  have HCAT := Lib.hid hcat; have HRCAT := Lib.hid hrcat; have HS := Lib.hid hs
  have HM0 := Lib.hid ((hM.below ((Below.refl _ w).alloc (Nat.le_refl _) _) : ManyAt (w.alloc (.cells #[.string s, .int .i64 n] 23)) p M))
  have B0 := Lib.hid hbx
  have X0 := Lib.hid (Box.new w s n)
  rw [← HLL.out]
  clear hM hMl hL hcat hrcat hbx hs
  go_enter Try.func3, Try.ntmps3
  go_wp2_with fail
  refine (HCAT.out _ HM0.out).mono ?_
  rintro e w1 ⟨rfl, b⟩
  have X1 := Lib.hid (X0.out.below b)
  have B1 := Lib.hid (B0.out.trans (b.mono B0.out.size))
  have HM1x := HM0.out.below b
  clear b X0 B0
  have X1a := Lib.hid (X1.out.alloc (.cells #[.string S1, .int .i64 K1] 23))
  have B1a := Lib.hid (B1.out.alloc B1.out.size (.cells #[.string S1, .int .i64 K1] 23))
  have Y1_1a := Lib.hid (Box.new w1 S1 K1)
  have HM1 := Lib.hid (HM1x.below ((Below.refl _ w1).alloc (Nat.le_refl _) (.cells #[.string S1, .int .i64 K1] 23))); clear HM1x
  clear X1 B1
  have X1 := Lib.hid X1a.out; clear X1a
  have Y1_1 := Lib.hid Y1_1a.out; clear Y1_1a
  have B1 := Lib.hid B1a.out; clear B1a
  have c0 := X1.out.c0; have c1 := X1.out.c1
  go_wp2_with fail
  clear c0 c1
  refine (HRCAT.out _ HM1.out).mono ?_
  rintro e w2 ⟨rfl, b⟩
  have X2 := Lib.hid (X1.out.below b)
  have Y1_2 := Lib.hid (Y1_1.out.below b)
  have B2 := Lib.hid (B1.out.trans (b.mono B1.out.size))
  clear b X1 Y1_1 B1
  have X2a := Lib.hid (X2.out.alloc (.cells #[.string S1, .int .i64 K1] 23))
  have Y1_2a := Lib.hid (Y1_2.out.alloc (.cells #[.string S1, .int .i64 K1] 23))
  have B2a := Lib.hid (B2.out.alloc B2.out.size (.cells #[.string S1, .int .i64 K1] 23))
  have Y2_2a := Lib.hid (Box.new w2 S1 K1)
  clear X2 Y1_2 B2
  have X2 := Lib.hid X2a.out; clear X2a
  have Y1_2 := Lib.hid Y1_2a.out; clear Y1_2a
  have Y2_2 := Lib.hid Y2_2a.out; clear Y2_2a
  have B2 := Lib.hid B2a.out; clear B2a
  have c0 := X2.out.c0; have c1 := X2.out.c1
  go_wp2_with fail
  clear c0 c1
  refine (cut_any s n a c _ HS.out).mono ?_
  rw [← HS2.out, ← HK2.out, ← HE2.out]
  rintro e w3 ⟨rfl, b⟩
  have X3 := Lib.hid (X2.out.below b)
  have Y1_3 := Lib.hid (Y1_2.out.below b)
  have Y2_3 := Lib.hid (Y2_2.out.below b)
  have B3 := Lib.hid (B2.out.trans (b.mono B2.out.size))
  clear b X2 Y1_2 Y2_2 B2
  have X3a := Lib.hid (X3.out.alloc (.cells #[.string S2, .int .i64 K2] 23))
  have Y1_3a := Lib.hid (Y1_3.out.alloc (.cells #[.string S2, .int .i64 K2] 23))
  have Y2_3a := Lib.hid (Y2_3.out.alloc (.cells #[.string S2, .int .i64 K2] 23))
  have B3a := Lib.hid (B3.out.alloc B3.out.size (.cells #[.string S2, .int .i64 K2] 23))
  have Y3_3a := Lib.hid (Box.new w3 S2 K2)
  clear X3 Y1_3 Y2_3 B3
  have X3 := Lib.hid X3a.out; clear X3a
  have Y1_3 := Lib.hid Y1_3a.out; clear Y1_3a
  have Y2_3 := Lib.hid Y2_3a.out; clear Y2_3a
  have Y3_3 := Lib.hid Y3_3a.out; clear Y3_3a
  have B3 := Lib.hid B3a.out; clear B3a
  have c0 := X3.out.c0; have c1 := X3.out.c1
  go_wp2_with fail
  clear c0 c1
  refine (rcut_any s n a c _ HS.out).mono ?_
  rw [← HS2.out, ← HK2.out, ← HE2.out]
  rintro e w4 ⟨rfl, b⟩
  have X4 := Lib.hid (X3.out.below b)
  have Y1_4 := Lib.hid (Y1_3.out.below b)
  have Y2_4 := Lib.hid (Y2_3.out.below b)
  have Y3_4 := Lib.hid (Y3_3.out.below b)
  have B4 := Lib.hid (B3.out.trans (b.mono B3.out.size))
  clear b X3 Y1_3 Y2_3 Y3_3 B3
  have X4a := Lib.hid (X4.out.alloc (.cells #[.string S2, .int .i64 K2] 23))
  have Y1_4a := Lib.hid (Y1_4.out.alloc (.cells #[.string S2, .int .i64 K2] 23))
  have Y2_4a := Lib.hid (Y2_4.out.alloc (.cells #[.string S2, .int .i64 K2] 23))
  have Y3_4a := Lib.hid (Y3_4.out.alloc (.cells #[.string S2, .int .i64 K2] 23))
  have B4a := Lib.hid (B4.out.alloc B4.out.size (.cells #[.string S2, .int .i64 K2] 23))
  have Y4_4a := Lib.hid (Box.new w4 S2 K2)
  clear X4 Y1_4 Y2_4 Y3_4 B4
  have X4 := Lib.hid X4a.out; clear X4a
  have Y1_4 := Lib.hid Y1_4a.out; clear Y1_4a
  have Y2_4 := Lib.hid Y2_4a.out; clear Y2_4a
  have Y3_4 := Lib.hid Y3_4a.out; clear Y3_4a
  have Y4_4 := Lib.hid Y4_4a.out; clear Y4_4a
  have B4 := Lib.hid B4a.out; clear B4a
  have c0 := X4.out.c0; have c1 := X4.out.c1
  go_wp2_with fail
  clear c0 c1
  refine (turn_top s n a _ HS.out).mono ?_
  rw [← HS3.out, ← HK3.out, ← HE3.out]
  rintro e w5 ⟨rfl, b⟩
  have X5 := Lib.hid (X4.out.below b)
  have Y1_5 := Lib.hid (Y1_4.out.below b)
  have Y2_5 := Lib.hid (Y2_4.out.below b)
  have Y3_5 := Lib.hid (Y3_4.out.below b)
  have Y4_5 := Lib.hid (Y4_4.out.below b)
  have B5 := Lib.hid (B4.out.trans (b.mono B4.out.size))
  clear b X4 Y1_4 Y2_4 Y3_4 Y4_4 B4
  have X5a := Lib.hid (X5.out.alloc (.cells #[.string S3, .int .i64 K3] 23))
  have Y1_5a := Lib.hid (Y1_5.out.alloc (.cells #[.string S3, .int .i64 K3] 23))
  have Y2_5a := Lib.hid (Y2_5.out.alloc (.cells #[.string S3, .int .i64 K3] 23))
  have Y3_5a := Lib.hid (Y3_5.out.alloc (.cells #[.string S3, .int .i64 K3] 23))
  have Y4_5a := Lib.hid (Y4_5.out.alloc (.cells #[.string S3, .int .i64 K3] 23))
  have B5a := Lib.hid (B5.out.alloc B5.out.size (.cells #[.string S3, .int .i64 K3] 23))
  have Y5_5a := Lib.hid (Box.new w5 S3 K3)
  clear X5 Y1_5 Y2_5 Y3_5 Y4_5 B5
  have X5 := Lib.hid X5a.out; clear X5a
  have Y1_5 := Lib.hid Y1_5a.out; clear Y1_5a
  have Y2_5 := Lib.hid Y2_5a.out; clear Y2_5a
  have Y3_5 := Lib.hid Y3_5a.out; clear Y3_5a
  have Y4_5 := Lib.hid Y4_5a.out; clear Y4_5a
  have Y5_5 := Lib.hid Y5_5a.out; clear Y5_5a
  have B5 := Lib.hid B5a.out; clear B5a
  have c0 := X5.out.c0; have c1 := X5.out.c1
  go_wp2_with fail
  clear c0 c1
  refine (rturn_top s n a _ HS.out).mono ?_
  rw [← HS3.out, ← HK3.out, ← HE3.out]
  rintro e w6 ⟨rfl, b⟩
  have X6 := Lib.hid (X5.out.below b)
  have Y1_6 := Lib.hid (Y1_5.out.below b)
  have Y2_6 := Lib.hid (Y2_5.out.below b)
  have Y3_6 := Lib.hid (Y3_5.out.below b)
  have Y4_6 := Lib.hid (Y4_5.out.below b)
  have Y5_6 := Lib.hid (Y5_5.out.below b)
  have B6 := Lib.hid (B5.out.trans (b.mono B5.out.size))
  clear b X5 Y1_5 Y2_5 Y3_5 Y4_5 Y5_5 B5
  have X6a := Lib.hid (X6.out.alloc (.cells #[.string S3, .int .i64 K3] 23))
  have Y1_6a := Lib.hid (Y1_6.out.alloc (.cells #[.string S3, .int .i64 K3] 23))
  have Y2_6a := Lib.hid (Y2_6.out.alloc (.cells #[.string S3, .int .i64 K3] 23))
  have Y3_6a := Lib.hid (Y3_6.out.alloc (.cells #[.string S3, .int .i64 K3] 23))
  have Y4_6a := Lib.hid (Y4_6.out.alloc (.cells #[.string S3, .int .i64 K3] 23))
  have Y5_6a := Lib.hid (Y5_6.out.alloc (.cells #[.string S3, .int .i64 K3] 23))
  have B6a := Lib.hid (B6.out.alloc B6.out.size (.cells #[.string S3, .int .i64 K3] 23))
  have Y6_6a := Lib.hid (Box.new w6 S3 K3)
  clear X6 Y1_6 Y2_6 Y3_6 Y4_6 Y5_6 B6
  have X6 := Lib.hid X6a.out; clear X6a
  have Y1_6 := Lib.hid Y1_6a.out; clear Y1_6a
  have Y2_6 := Lib.hid Y2_6a.out; clear Y2_6a
  have Y3_6 := Lib.hid Y3_6a.out; clear Y3_6a
  have Y4_6 := Lib.hid Y4_6a.out; clear Y4_6a
  have Y5_6 := Lib.hid Y5_6a.out; clear Y5_6a
  have Y6_6 := Lib.hid Y6_6a.out; clear Y6_6a
  have B6 := Lib.hid B6a.out; clear B6a
  have c0 := X6.out.c0; have c1 := X6.out.c1
  go_wp2_with fail
  clear c0 c1
  refine (ones_any s n _ HS.out).mono ?_
  rw [← HN4.out, ← HE4.out]
  rintro e w7 ⟨rfl, b⟩
  have X7 := Lib.hid (X6.out.below b)
  have Y1_7 := Lib.hid (Y1_6.out.below b)
  have Y2_7 := Lib.hid (Y2_6.out.below b)
  have Y3_7 := Lib.hid (Y3_6.out.below b)
  have Y4_7 := Lib.hid (Y4_6.out.below b)
  have Y5_7 := Lib.hid (Y5_6.out.below b)
  have Y6_7 := Lib.hid (Y6_6.out.below b)
  have B7 := Lib.hid (B6.out.trans (b.mono B6.out.size))
  clear b X6 Y1_6 Y2_6 Y3_6 Y4_6 Y5_6 Y6_6 B6
  have c0 := X7.out.c0; have c1 := X7.out.c1
  go_wp2_with fail
  clear c0 c1
  refine (rones_any s n _ HS.out).mono ?_
  rw [← HN4.out, ← HE4.out]
  rintro e w8 ⟨rfl, b⟩
  have X8 := Lib.hid (X7.out.below b)
  have Y1_8 := Lib.hid (Y1_7.out.below b)
  have Y2_8 := Lib.hid (Y2_7.out.below b)
  have Y3_8 := Lib.hid (Y3_7.out.below b)
  have Y4_8 := Lib.hid (Y4_7.out.below b)
  have Y5_8 := Lib.hid (Y5_7.out.below b)
  have Y6_8 := Lib.hid (Y6_7.out.below b)
  have B8 := Lib.hid (B7.out.trans (b.mono B7.out.size))
  clear b X7 Y1_7 Y2_7 Y3_7 Y4_7 Y5_7 Y6_7 B7
  have c0 := X8.out.c0; have c1 := X8.out.c1
  go_wp2_with fail
  clear c0 c1
  refine (cuts_any _).mono ?_
  rintro e w9 ⟨rfl, b⟩
  have X9 := Lib.hid (X8.out.below b)
  have Y1_9 := Lib.hid (Y1_8.out.below b)
  have Y2_9 := Lib.hid (Y2_8.out.below b)
  have Y3_9 := Lib.hid (Y3_8.out.below b)
  have Y4_9 := Lib.hid (Y4_8.out.below b)
  have Y5_9 := Lib.hid (Y5_8.out.below b)
  have Y6_9 := Lib.hid (Y6_8.out.below b)
  have B9 := Lib.hid (B8.out.trans (b.mono B8.out.size))
  clear b X8 Y1_8 Y2_8 Y3_8 Y4_8 Y5_8 Y6_8 B8
  have Xc0 := X9.out.c0; have Xc1 := X9.out.c1
  have Y1_c0 := Y1_9.out.c0; have Y1_c1 := Y1_9.out.c1
  have Y2_c0 := Y2_9.out.c0; have Y2_c1 := Y2_9.out.c1
  have Y3_c0 := Y3_9.out.c0; have Y3_c1 := Y3_9.out.c1
  have Y4_c0 := Y4_9.out.c0; have Y4_c1 := Y4_9.out.c1
  have Y5_c0 := Y5_9.out.c0; have Y5_c1 := Y5_9.out.c1
  have Y6_c0 := Y6_9.out.c0; have Y6_c1 := Y6_9.out.c1
  go_wp2_with fail
  go_ret
  exact ⟨rfl, B9.out⟩

section
open Go.ChangeShapes Go.WideShapes Go.Deep
variable {H : Type} {enc : TypeId × Value → H} {P : Program} {w : World} {base : Nat} {spare : Nat → Bool} {held : Bool}
theorem bits_of {t e : TypeId} {f0 f1 : Field} {fuel : Nat} {A : Option Addr} {len cap : Nat} {x : DataW H × List MemPlace} (ht : P.underlying t = some (.slice e)) (he : P.underlying e = some (.struct #[f0, f1])) (hce : P.cellsOf e = 2)
    (o0 : f0.offset = 0) (o1 : f1.offset = 1) (c0 : P.cellsOf f0.type = 1) (c1 : P.cellsOf f1.type = 1) (h0 : P.underlying f0.type = some .string) (h1 : P.underlying f1.type = some (.int .i64))
    (h : DataW.trod enc P w base spare held fuel t [.slice A len cap] = some x) : ∃ M : Many, M.length = len ∧ ManyAt w A M ∧ len ≤ cap ∧ cap ≤ maxLen := by
  rcases open_slice_pairs ht he hce o0 o1 c0 c1 h with ⟨hcs, _⟩ | ⟨a, l, c, m, n, V0, V1, D0, D1, P0, P1, hcs, _, hl, hm, hmm, _, hx⟩
  · simp at hcs
    obtain ⟨rfl, rfl, rfl⟩ := hcs
    exact ⟨[], rfl, fun i hi => absurd hi (by simp), by simp, by simp⟩
  · simp at hcs
    obtain ⟨rfl, rfl, rfl⟩ := hcs
    have hlm : len ≤ m := by rw [hmm]; split <;> omega
    have each : ∀ i, i < len → ∃ (s : ByteArray) (z : Int), w.cell? (a.add (i * 2)) = some (.string s) ∧ w.cell? (a.add (i * 2 + 1)) = some (.int .i64 z) ∧ s.size ≤ maxLen := by
      intro i hi
      obtain ⟨h2, h3, h4, h5⟩ := hx i (by omega)
      obtain ⟨s, es, _, hs⟩ := DataW.trod_string h0 h4
      obtain ⟨z, ez, _, _⟩ := DataW.trod_int h1 h5
      have e1 : V0 i = .string s := by simpa using es
      have e2 : V1 i = .int .i64 z := by simpa using ez
      exact ⟨s, z, by rw [h2, e1], by rw [h3, e2], hs⟩
    have ch : ∃ F : Nat → ByteArray × Int, ∀ i, i < len → w.cell? (a.add (i * 2)) = some (.string (F i).1) ∧ w.cell? (a.add (i * 2 + 1)) = some (.int .i64 (F i).2) ∧ (F i).1.size ≤ maxLen :=
      ⟨fun i => if h : i < len then ⟨Classical.choose (each i h), Classical.choose (Classical.choose_spec (each i h))⟩ else (⟨#[]⟩, 0), fun i hi => by
        dsimp only
        rw [dif_pos hi]
        exact Classical.choose_spec (Classical.choose_spec (each i hi))⟩
    obtain ⟨F, hF⟩ := ch
    refine ⟨(List.range len).map F, by simp, ?_, hl, hm⟩
    intro i hi
    rw [List.length_map, List.length_range] at hi
    obtain ⟨q1, q2, q3⟩ := hF i hi
    have e : Many.at ((List.range len).map F) i = F i := by simp [Many.at, List.getD_eq_getElem?_getD, hi]
    rw [e]
    obtain ⟨b, off, spot⟩ := a
    have hspot : spot = none := by
      have h9 := World.cell?_spot (hF 0 (by omega)).1
      simpa [Addr.add] using h9
    subst hspot
    have hlt : b < w.heap.size := by
      rcases Nat.lt_or_ge b w.heap.size with hl2 | hl2
      · exact hl2
      · have h8 : ((⟨b, off, none⟩ : Addr).add (i * 2)).block = b := by unfold Addr.add; split <;> rfl
        unfold World.cell? at q1
        rw [h8, Array.getElem?_eq_none hl2] at q1
        cases q1
    have a1 : ((⟨b, off, none⟩ : Addr).add (i * 2)) = ⟨b, off + i * 2, none⟩ := by simp [Addr.add] <;> omega
    have a2 : ((⟨b, off, none⟩ : Addr).add (i * 2 + 1)) = ⟨b, off + i * 2 + 1, none⟩ := by simp [Addr.add]; omega
    rw [a1] at q1; rw [a2] at q2
    exact ⟨b, off, rfl, hlt, q1, q2, q3⟩
end
end Go.Proofs.Ytjbbkcnfilnmcaa.Bt
