/- The walks of crc.sumBytes and wringerref02.tail. -/
import Derived.Test.YtjbbkcnfilnmcaaDoorCrcWalkC
namespace Go.Proofs.YtjbbkcnfilnmcaaDoor.Crc
open Go.RowKit

theorem TabOk.pos {w : World} (h : TabOk w) : 0 < w.heap.size := by
  rcases Nat.lt_or_ge 0 w.heap.size with h' | h'
  · exact h'
  · have := h 0 (by decide)
    simp [World.cell?, Array.getElem?_eq_none h'] at this
theorem TabOk.below {w w' : World} (h : TabOk w) (hb : Below w.heap.size w w') : TabOk w' := fun i hi => by
  rw [hb.cell (p := ⟨0, i, none⟩) h.pos]; exact h i hi
/-- four bytes, the lowest first -/
def leb (n : Nat) : List UInt8 := [UInt8.ofNat n, UInt8.ofNat (n / 256), UInt8.ofNat (n / 65536), UInt8.ofNat (n / 16777216)]

def lebS (n : Nat) : ByteArray := ⟨(leb n).toArray⟩
/-- the four bytes of a text's sum -/
def tailS (s : ByteArray) : ByteArray := lebS (sums [s])
theorem tailS_size (s : ByteArray) : (tailS s).size = 4 := rfl
theorem leb_cell (n j : Nat) (hj : j < (leb n).length) : (#[Value.int .u8 ((n : Int) % 256), .int .u8 ((n : Int) / 256 % 256), .int .u8 ((n : Int) / 65536 % 256), .int .u8 ((n : Int) / 16777216 % 256)])[j]? = some (.int .u8 ((leb n)[j].toNat : Int)) := by
  have h : j = 0 ∨ j = 1 ∨ j = 2 ∨ j = 3 := by simp [leb] at hj; omega
  rcases h with rfl | rfl | rfl | rfl <;> simp [leb]
theorem conv_leb (w : World) (n : Nat) (t : TypeId) :
    (convert 22 9 (.slice (some ⟨w.heap.size, 0, none⟩) 4 4)).run Tryd.prog (w.alloc (.cells #[Value.int .u8 ((n : Int) % 256), .int .u8 ((n : Int) / 256 % 256), .int .u8 ((n : Int) / 65536 % 256), .int .u8 ((n : Int) / 16777216 % 256)] t)) =
      .ok (.string ⟨(leb n).toArray⟩) (w.alloc (.cells #[Value.int .u8 ((n : Int) % 256), .int .u8 ((n : Int) / 256 % 256), .int .u8 ((n : Int) / 65536 % 256), .int .u8 ((n : Int) / 16777216 % 256)] t)) := by
  refine run_convert_bytes_back (P := Tryd.prog) _ 22 9 5 ⟨w.heap.size, 0, none⟩ 4 (leb n) Tryd.underlying22 Tryd.underlying5 Tryd.underlying9 ?_
  intro j hj
  rw [← leb_cell n j hj]
  have e : ((⟨w.heap.size, 0, none⟩ : Addr).add j) = ⟨w.heap.size, j, none⟩ := by simp [Addr.add]; omega
  rw [e, World.cell?_alloc_at _ _ _ _ rfl]

set_option maxHeartbeats 1000000 in
theorem sumBytes_any (s : ByteArray) (w : World) (hs : s.size ≤ maxLen) (ht : TabOk w) :
    Calls Tryd.prog 15 #[.string s] w fun e w' => e = .returned (.string (tailS s)) ∧ Below w.heap.size w w' := by
  have hss : ∀ x ∈ [s], x.size ≤ maxLen := by simpa using hs
  have hb1 : Below w.heap.size w (w.alloc (.cells #[.string s] 9)) := (Below.refl _ _).alloc (Nat.le_refl _) _
  have ht1 := ht.below hb1
  go_enter Tryd.func15, Tryd.ntmps15
  go_wp2_with fail
  refine (sum_any _ _ [s] _ (by unfold maxLen; simp) hss (.inr ⟨_, _, rfl, ?_⟩) ht1).mono ?_
  · intro i hi
    obtain rfl : i = 0 := by simp at hi; omega
    simp
  rintro e w' ⟨rfl, rfl⟩
  obtain ⟨n, hn⟩ : ∃ n, n = sums [s] := ⟨_, rfl⟩
  rw [← hn]
  have HN := Lib.hid hn; clear hn
  go_wp2_with fail
  refine wp_loop_rounds 5 ?_
  iterate 5 (rw [rounds_succ]; go_wp2_with fail)
  have hc := conv_leb (w.alloc (.cells #[.string s] 9)) n 51
  rw [show (w.alloc (.cells #[.string s] 9)).heap.size = w.heap.size + 1 from by simp] at hc
  rw [hc]
  go_wp2_with fail
  go_ret
  exact ⟨by show Ending.returned (.string ⟨(leb n).toArray⟩) = _; rw [HN.out]; rfl, hb1.alloc (by simp) _⟩

end Go.Proofs.YtjbbkcnfilnmcaaDoor.Crc
