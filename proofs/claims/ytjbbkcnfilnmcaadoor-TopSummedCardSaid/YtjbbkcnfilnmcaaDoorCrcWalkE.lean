/- The walks of Frame and Open, the program's and the document's. -/
import Derived.Test.YtjbbkcnfilnmcaaDoorCrcWalkD
import Derived.Test.YtjbbkcnfilnmcaaDoorClone
import Derived.Deep.RegionHeld3
namespace Go.Proofs.YtjbbkcnfilnmcaaDoor.Crc
open Go.RowKit

theorem toList_data (s : ByteArray) : s.toList = s.data.toList := by obtain ⟨⟨l⟩⟩ := s; simp
theorem toList_beq (a b : ByteArray) : (a.toList == b.toList) = decide (a = b) := by
  rw [toList_data, toList_data, Bool.eq_iff_iff, beq_iff_eq, decide_eq_true_iff]
  constructor
  · intro h; exact ByteArray.ext (Array.toList_inj.1 h)
  · intro h; rw [h]

def frameS (s : ByteArray) : ByteArray := if 65536 < s.size then ⟨#[]⟩ else s ++ tailS s
def frameE (s : ByteArray) : Int := if 65536 < s.size then 1 else 0
/-- what a frame is of -/
def bodyOf (f : ByteArray) : ByteArray := f.extract 0 (f.size - 4)
def openE (f : ByteArray) : Int := if f.size < 4 then 5 else if 65540 < f.size then 1 else if tailS (bodyOf f) = f.extract (f.size - 4) f.size then 0 else 6
def openS (f : ByteArray) : ByteArray := if openE f = 0 then bodyOf f else ⟨#[]⟩
theorem pair {s t : ByteArray} {a b : Int} (h : s = t) (k : a = b) : Ending.returned (.tuple #[.string s, .int .i64 a]) = .returned (.tuple #[.string t, .int .i64 b]) := by rw [h, k]

set_option maxHeartbeats 1000000 in
theorem frame_any (s : ByteArray) (w : World) (hs : s.size ≤ maxLen) (ht : TabOk w) :
    Calls Tryd.prog 6 #[.string s] w fun e w' => e = .returned (.tuple #[.string (frameS s), .int .i64 (frameE s)]) ∧ Below w.heap.size w w' := by
  by_cases h : 65536 < s.size
  · have F : Hid (frameS s = ⟨#[]⟩ ∧ frameE s = 1) := Lib.hid ⟨if_pos h, if_pos h⟩
    go_enter Tryd.func6, Tryd.ntmps6
    go_wp2_with fail
    go_ret2
    exact ⟨pair F.out.1.symm F.out.2.symm, Below.refl _ _⟩
  · have F : Hid (frameS s = s ++ tailS s ∧ frameE s = 0) := Lib.hid ⟨if_neg h, if_neg h⟩
    have hsz := tailS_size s
    go_enter Tryd.func6, Tryd.ntmps6
    go_wp2_with fail
    refine (sumBytes_any s _ hs ht).mono ?_
    rintro e w' ⟨rfl, hb⟩
    generalize tailS s = t at *
    go_wp2_with fail
    go_ret2
    exact ⟨pair F.out.1.symm F.out.2.symm, hb⟩

set_option maxHeartbeats 1000000 in
theorem open_any (f : ByteArray) (w : World) (hs : f.size ≤ maxLen) (ht : TabOk w) :
    Calls Tryd.prog 7 #[.string f] w fun e w' => e = .returned (.tuple #[.string (openS f), .int .i64 (openE f)]) ∧ Below w.heap.size w w' := by
  unfold maxLen at hs
  by_cases h4 : f.size < 4
  · have e1 : openE f = 5 := if_pos h4
    have F : Hid (openS f = ⟨#[]⟩ ∧ openE f = 5) := Lib.hid ⟨if_neg (by omega), e1⟩
    clear e1
    go_enter Tryd.func7, Tryd.ntmps7
    go_wp2_with fail
    go_ret2
    exact ⟨pair F.out.1.symm F.out.2.symm, Below.refl _ _⟩
  by_cases h5 : 65540 < f.size
  · have e1 : openE f = 1 := by unfold openE; rw [if_neg h4, if_pos h5]
    have F : Hid (openS f = ⟨#[]⟩ ∧ openE f = 1) := Lib.hid ⟨if_neg (by omega), e1⟩
    clear e1
    go_enter Tryd.func7, Tryd.ntmps7
    go_wp2_with fail
    go_ret2
    exact ⟨pair F.out.1.symm F.out.2.symm, Below.refl _ _⟩
  obtain ⟨n, hn⟩ : ∃ n, n = f.size - 4 := ⟨_, rfl⟩
  have hsub : (f.size : Int) - 4 = (n : Int) := by omega
  have l1 : (n : Int) ≤ (f.size : Int) := by omega
  have l0 : (0 : Int) ≤ (n : Int) := by omega
  have hx : (f.extract 0 n).size ≤ maxLen := by unfold maxLen; rw [ByteArray.size_extract]; omega
  have hx2 : (f.extract 0 n).size ≤ 281474976710656 := by rw [ByteArray.size_extract]; omega
  have hbo : bodyOf f = f.extract 0 n := by unfold bodyOf; rw [hn]
  by_cases heq : tailS (f.extract 0 n) = f.extract n f.size
  · have e1 : openE f = 0 := by unfold openE; rw [if_neg h4, if_neg h5, hbo, ← hn, if_pos heq]
    have F : Hid (openS f = f.extract 0 n ∧ openE f = 0) := Lib.hid ⟨by unfold openS; rw [if_pos e1, hbo], e1⟩
    have ht0 : ((tailS (f.extract 0 n)).toList == (f.extract n f.size).toList) = true := by rw [toList_beq]; exact decide_eq_true heq
    clear e1 hbo hn heq
    go_enter Tryd.func7, Tryd.ntmps7
    go_wp2_with fail
    go_region_held3 (fun _ => True) (trivial) (first | (go_at_call 15; refine (sumBytes_any _ _ hx (by exact ht)).mono ?_; rintro e w' ⟨rfl, hb⟩))
    have hb0 : Below w.heap.size w w' := Below.trans (⟨rfl, rfl, rfl, Nat.le_refl _, fun _ _ => rfl⟩ : Below w.heap.size w w.drew) hb
    clear hb ht0
    go_wp2_with fail
    refine (Cln.clone_any _ _ hx2).mono ?_
    rintro e w2 ⟨rfl, hb2⟩
    have hb3 := hb0.trans (hb2.mono hb0.size)
    clear hb0 hb2
    go_wp2_with fail
    go_ret2
    exact ⟨pair F.out.1.symm F.out.2.symm, hb3⟩
  · have e1 : openE f = 6 := by unfold openE; rw [if_neg h4, if_neg h5, hbo, ← hn, if_neg heq]
    have F : Hid (openS f = ⟨#[]⟩ ∧ openE f = 6) := Lib.hid ⟨by unfold openS; rw [if_neg (by omega)], e1⟩
    have ht0 : ((tailS (f.extract 0 n)).toList == (f.extract n f.size).toList) = false := by rw [toList_beq]; exact decide_eq_false heq
    clear e1 hbo hn heq
    go_enter Tryd.func7, Tryd.ntmps7
    go_wp2_with fail
    go_region_held3 (fun _ => True) (trivial) (first | (go_at_call 15; refine (sumBytes_any _ _ hx (by exact ht)).mono ?_; rintro e w' ⟨rfl, hb⟩))
    have hb0 : Below w.heap.size w w' := Below.trans (⟨rfl, rfl, rfl, Nat.le_refl _, fun _ _ => rfl⟩ : Below w.heap.size w w.drew) hb
    clear hb ht0
    go_wp2_with fail
    go_ret2
    exact ⟨pair F.out.1.symm F.out.2.symm, hb0⟩

theorem below_drew_alloc (w : World) {w' : World} (o : Obj) (h : Below w.heap.size (w.alloc o).drew w') : Below w.heap.size w w' :=
  Below.trans (((Below.refl _ w).alloc (Nat.le_refl _) o).drew) h
theorem one_text {w : World} {x : ByteArray} (t : TypeId) : StrsAt (w.alloc (.cells #[.string x] t)) (some ⟨w.heap.size, 0, none⟩) [x] := by
  refine .inr ⟨_, _, rfl, ?_⟩
  intro i hi
  obtain rfl : i = 0 := by simp at hi; omega
  simp

end Go.Proofs.YtjbbkcnfilnmcaaDoor.Crc
