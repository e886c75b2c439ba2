/- The law OrderColumns. -/
import Derived.Test.YtfmnnbeegfjnaaaGreatOrdLives
namespace Go.Proofs.YtfmnnbeegfjnaaaGreat.Od
open Go.RowKit Go.Lib Rw Ls _root_.Go.Proofs.YtfmnnbeegfjnaaaGreat.Nm

set_option maxHeartbeats 4000000 in
theorem columns_lives (s t : ByteArray) (p : Int) (w : World) (h : (300 < s.size ∧ s.size ≤ 4096) ∨ (300 < t.size ∧ t.size ≤ 4096)) :
    Calls Tryz.prog 4 #[.string s, .string t, .int .i64 p] w fun e w' => e = .returned (.bool true) ∧ Below w.heap.size w w' := by
  have CL := Lib.hid (fun W => lives_any W)
  have hor : (decide ((300 : Int) < (s.size : Int)) = true ∧ decide ((s.size : Int) ≤ 4096) = true ∧ decide (300 < s.size) = true ∧ decide (s.size ≤ 4096) = true) ∨
      ((decide ((300 : Int) < (s.size : Int)) = false ∧ decide (300 < s.size) = false) ∧ decide ((300 : Int) < (t.size : Int)) = true ∧ decide ((t.size : Int) ≤ 4096) = true ∧ decide (300 < t.size) = true ∧ decide (t.size ≤ 4096) = true) ∨
      ((decide ((300 : Int) < (s.size : Int)) = true ∧ decide ((s.size : Int) ≤ 4096) = false ∧ decide (300 < s.size) = true ∧ decide (s.size ≤ 4096) = false) ∧ decide ((300 : Int) < (t.size : Int)) = true ∧ decide ((t.size : Int) ≤ 4096) = true ∧ decide (300 < t.size) = true ∧ decide (t.size ≤ 4096) = true) := by
    by_cases h1 : 300 < s.size
    · by_cases h2 : s.size ≤ 4096
      · exact .inl ⟨decide_eq_true (by omega), decide_eq_true (by omega), decide_eq_true h1, decide_eq_true h2⟩
      · exact .inr (.inr ⟨⟨decide_eq_true (by omega), decide_eq_false (by omega), decide_eq_true h1, decide_eq_false h2⟩, decide_eq_true (by omega), decide_eq_true (by omega), decide_eq_true (by omega), decide_eq_true (by omega)⟩)
    · exact .inr (.inl ⟨⟨decide_eq_false (by omega), decide_eq_false h1⟩, decide_eq_true (by omega), decide_eq_true (by omega), decide_eq_true (by omega), decide_eq_true (by omega)⟩)
  clear h
  rcases hor with ⟨t1, t2, t3, t4⟩ | ⟨⟨t1, t2⟩, t3, t4, t5, t6⟩ | ⟨⟨t1, t2, t7, t8⟩, t3, t4, t5, t6⟩
  all_goals
    go_enter Tryz.func4, Tryz.ntmps4
    go_wp2_with fail
    refine (CL.out _).mono ?_
    rintro e w1 ⟨rfl, b⟩
    have B := Lib.hid b
    clear b
    go_wp2_with fail
    go_ret
    exact ⟨rfl, B.out⟩
set_option maxHeartbeats 4000000 in
set_option maxRecDepth 100000 in
theorem columns_law (s t : ByteArray) (p : Int) (w : World) (hs : s.size ≤ 1048576) (ht : t.size ≤ 1048576) :
    Calls Tryz.prog 4 #[.string s, .string t, .int .i64 p] w fun e w' => e = .returned (.bool true) ∧ Below w.heap.size w w' := by
  by_cases hc : (300 < s.size ∧ s.size ≤ 4096) ∨ (300 < t.size ∧ t.size ≤ 4096)
  · exact columns_lives s t p w hc
  obtain ⟨C, r1, r2, CA0, CB0⟩ : ∃ (C : ByteArray) (r1 r2 : Int), (∀ W, Calls Tryz.prog 19 #[.string s] W fun e w' => e = .returned (.tuple #[.string C, .int .i64 r1, .int .i64 r2]) ∧ Below W.heap.size W w') ∧ (∀ W, Calls Tryz.prog 20 #[.string s] W fun e w' => e = .returned (.tuple #[.string C, .int .i64 r1, .int .i64 r2]) ∧ Below W.heap.size W w') := by
    by_cases h : 4096 < s.size
    · exact ⟨_, _, _, fun W => pcolumn_no s W h (by omega), fun W => rcolumn_no s W h (by omega)⟩
    · exact ⟨_, _, _, fun W => pcolumn_any s W (by omega), fun W => rcolumn_any s W (by omega)⟩
  obtain ⟨D, r3, CC0, CD0⟩ : ∃ (D : ByteArray) (r3 : Int), (∀ W, Calls Tryz.prog 21 #[.string t, .int .i64 p] W fun e w' => e = .returned (.tuple #[.string D, .int .i64 r3]) ∧ Below W.heap.size W w') ∧ (∀ W, Calls Tryz.prog 22 #[.string t, .int .i64 p] W fun e w' => e = .returned (.tuple #[.string D, .int .i64 r3]) ∧ Below W.heap.size W w') := by
    by_cases h : 4096 < t.size
    · exact ⟨_, _, fun W => ptext_no t p W h, fun W => rtext_no t p W h⟩
    · exact ⟨_, _, fun W => ptext_any t p W (by omega), fun W => rtext_any t p W (by omega)⟩
  have CA := Lib.hid CA0; have CB := Lib.hid CB0; have CC := Lib.hid CC0; have CD := Lib.hid CD0
  have CL := Lib.hid (fun W => lives_any W)
  have hw : ∀ n : Nat, ¬ (300 < n ∧ n ≤ 4096) → (decide ((300 : Int) < (n : Int)) = false ∧ decide (300 < n) = false) ∨ (decide ((300 : Int) < (n : Int)) = true ∧ decide (300 < n) = true ∧ decide ((n : Int) ≤ 4096) = false ∧ decide (n ≤ 4096) = false) := fun n hn => by
    by_cases h : 300 < n
    · exact .inr ⟨decide_eq_true (by omega), decide_eq_true h, decide_eq_false (by omega), decide_eq_false (by omega)⟩
    · exact .inl ⟨decide_eq_false (by omega), decide_eq_false h⟩
  have h1 := hw s.size (fun h => hc (.inl h))
  have h2 := hw t.size (fun h => hc (.inr h))
  clear CA0 CB0 CC0 CD0 hw hc hs ht
  rcases h1 with ⟨t1, t2⟩ | ⟨t1, t2, t3, t4⟩
  all_goals
    rcases h2 with ⟨u1, u2⟩ | ⟨u1, u2, u3, u4⟩
    all_goals
      have B : Hid (Below w.heap.size w w) := Lib.hid (Below.refl _ _)
      go_enter Tryz.func4, Tryz.ntmps4
      go_wp2_with fail
      refine (CA.out _).mono ?_
      rintro e w0 ⟨rfl, b⟩
      replace B := Lib.hid (B.out.trans (b.mono B.out.size))
      clear b
      go_wp2_with fail
      refine (CB.out _).mono ?_
      rintro e w1 ⟨rfl, b⟩
      replace B := Lib.hid (B.out.trans (b.mono B.out.size))
      clear b
      go_wp2_with fail
      refine (CC.out _).mono ?_
      rintro e w2 ⟨rfl, b⟩
      replace B := Lib.hid (B.out.trans (b.mono B.out.size))
      clear b
      go_wp2_with fail
      refine (CD.out _).mono ?_
      rintro e w3 ⟨rfl, b⟩
      replace B := Lib.hid (B.out.trans (b.mono B.out.size))
      clear b
      go_wp2_with fail
      refine (CL.out _).mono ?_
      rintro e w4 ⟨rfl, b⟩
      replace B := Lib.hid (B.out.trans (b.mono B.out.size))
      clear b
      go_wp2_with fail
      go_ret
      exact ⟨rfl, B.out⟩
end Go.Proofs.YtfmnnbeegfjnaaaGreat.Od
