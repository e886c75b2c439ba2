/- The walks of the laws CrcSums, CrcFrames, CrcParts. -/
import Derived.Test.YtbbokhelmhmgfaaDoorCrcLives
namespace Go.Proofs.YtbbokhelmhmgfaaDoor.Crc
open Go.RowKit

theorem cell_lt {w : World} {a : Addr} {v : Value} (h : w.cell? a = some v) : a.block < w.heap.size := by
  rcases Nat.lt_or_ge a.block w.heap.size with h' | h'
  · exact h'
  · simp [World.cell?, Array.getElem?_eq_none h'] at h
theorem StrsAt.below {w w' : World} {ao : Option Addr} {ss : List ByteArray} (h : StrsAt w ao ss) (hb : Below w.heap.size w w') : StrsAt w' ao ss := by
  rcases h with h | ⟨b, off, rfl, hc⟩
  · exact .inl h
  · refine .inr ⟨b, off, rfl, fun i hi => ?_⟩
    rw [hb.cell (cell_lt (hc i hi))]; exact hc i hi

set_option maxHeartbeats 1000000 in
theorem sums_law (ao : Option Addr) (cap : Nat) (ss : List ByteArray) (sum : Nat) (h1 : sum < 4294967296) (s : ByteArray) (w : World) (hl : ss.length ≤ maxLen) (hss : ∀ s ∈ ss, s.size ≤ maxLen) (hst : StrsAt w ao ss)
    (hs : s.size ≤ maxLen) (ht : TabOk w) :
    Calls Tryd.prog 3 #[.slice ao ss.length cap, .int .u32 sum, .string s] w fun e w' => e = .returned (.bool true) ∧ Below w.heap.size w w' := by
  go_enter Tryd.func3, Tryd.ntmps3
  go_wp2_with fail
  refine (lives_any _ ht).mono ?_
  rintro e w1 ⟨rfl, b1⟩
  have t1 := ht.below b1
  have s1 := hst.below b1
  go_wp2_with fail
  refine (sum_any _ _ ss _ hl hss s1 t1).mono ?_
  rintro e w2 ⟨rfl, rfl⟩
  go_wp2_with fail
  refine (rsum_any _ _ ss _ hl hss s1).mono ?_
  rintro e w2 ⟨rfl, rfl⟩
  go_wp2_with fail
  refine (more_any _ h1 _ _ hs t1).mono ?_
  rintro e w2 ⟨rfl, rfl⟩
  go_wp2_with fail
  refine (rmore_any _ h1 _ _ hs).mono ?_
  rintro e w2 ⟨rfl, rfl⟩
  go_wp2_with fail
  go_ret
  exact ⟨rfl, b1⟩

set_option maxHeartbeats 1000000 in
theorem frames_law (s f : ByteArray) (w : World) (hs : s.size ≤ maxLen) (hf : f.size ≤ maxLen) (ht : TabOk w) :
    Calls Tryd.prog 4 #[.string s, .string f] w fun e w' => e = .returned (.bool true) ∧ Below w.heap.size w w' := by
  go_enter Tryd.func4, Tryd.ntmps4
  go_wp2_with fail
  refine (frame_any _ _ hs ht).mono ?_
  rintro e w1 ⟨rfl, b1⟩
  have t1 := ht.below b1
  go_wp2_with fail
  refine (rframe_any _ _ hs).mono ?_
  rintro e w2 ⟨rfl, b2⟩
  have t2 := t1.below b2
  have c2 := b1.trans (b2.mono b1.size)
  clear b1 b2 t1
  go_wp2_with fail
  refine (open_any _ _ hf t2).mono ?_
  rintro e w3 ⟨rfl, b3⟩
  have t3 := t2.below b3
  have c3 := c2.trans (b3.mono c2.size)
  clear c2 b3 t2
  go_wp2_with fail
  refine (ropen_any _ _ hf).mono ?_
  rintro e w4 ⟨rfl, b4⟩
  have t4 := t3.below b4
  have c4 := c3.trans (b4.mono c3.size)
  clear c3 b4 t3
  go_wp2_with fail
  refine (apart_any _ _ _ hs hf).mono ?_
  rintro e w5 ⟨rfl, b5⟩
  have t5 := t4.below b5
  have c5 := c4.trans (b5.mono c4.size)
  clear c4 b5 t4
  go_wp2_with fail
  refine (rapart_any _ _ _ hs hf).mono ?_
  rintro e w6 ⟨rfl, b6⟩
  have t6 := t5.below b6
  have c6 := c5.trans (b6.mono c5.size)
  clear c5 b6 t5
  go_wp2_with fail
  refine (lives_any _ t6).mono ?_
  rintro e w7 ⟨rfl, b7⟩
  have c7 := c6.trans (b7.mono c6.size)
  clear c6 b7 t6
  go_wp2_with fail
  go_ret
  exact ⟨rfl, c7⟩
end Go.Proofs.YtbbokhelmhmgfaaDoor.Crc
