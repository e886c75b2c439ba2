/- The document's fresh row. -/
import Derived.Test.YtbcdnnppbggifaaMtfB
namespace Go.Proofs.Ytbcdnnppbggifaa.Mt
open Go.RowKit Go.Lib Rw Nm Ls Od

def freshL : List Nat := List.range 256
def freshB : ByteArray := ofN freshL
theorem fresh_row : Row 256 freshL := ⟨by simp [freshL], fun c hc => List.mem_range.2 hc⟩
theorem bsN_fresh : bsN freshB = freshL := bsN_ofN fun _ hx => List.mem_range.1 hx
def part (k : Nat) : List UInt8 := (List.range k).map UInt8.ofNat ++ List.replicate (256 - k) 0
theorem part_length (k : Nat) (h : k ≤ 256) : (part k).length = 256 := by simp [part]; omega
theorem part_succ (k : Nat) (h : k < 256) : (part k).set k (UInt8.ofNat k) = part (k + 1) := by
  unfold part
  rw [show 256 - k = (256 - (k + 1)) + 1 by omega, List.replicate_succ, List.set_append_right _ _ (by simp)]
  simp [List.range_succ]
theorem rfresh_any (w : World) :
    Calls Try.prog 17 #[] w fun e w' => e = .returned (.string freshB) ∧ Below w.heap.size w w' := by
  obtain ⟨i0, hi0, hz0, hz1, hz2⟩ := info_parts info_u8
  go_enter Try.func17, Try.ntmps17
  go_wp2_with (at_make; refine wpList_make_full _ rfl _ _ 37 rfl w.heap.size 5 i0 (.int .u8 0) 1 Try.underlying37 hi0 hz0 hz1 .i64 .i64 256 256 256 rfl rfl rfl rfl ?c1 ?c2 ?c3 ?_)
  case c1 => rw [hz2]; omega
  case c2 => unfold maxLen; omega
  case c3 => simp
  intro w1 hown1 hgr1
  have b1 : Below w.heap.size w w1 := (Below.refl _ w).grown hgr1 (Nat.le_refl _) (by simp)
  rw [toList_madeCells_one] at hown1
  have R1 := Lib.hid (made_bytes hown1)
  have B1 := Lib.hid b1
  obtain ⟨g, hg⟩ : ∃ g, g = w.heap.size := ⟨_, rfl⟩
  rw [← hg] at R1 ⊢
  have HG := Lib.hid hg
  clear b1 hown1 hgr1 hg
  go_wp2_with fail
  go_loopw [6] (fun i wr => ∃ (k : Nat), k ≤ 256 ∧ i = .int .i64 k ∧ Row.Bytes wr g (part k) ∧ Below w.heap.size w wr) (fun i _ => 256 - (intOf i).toNat)
  case atStart => exact ⟨0, by omega, rfl, R1.out, B1.out⟩
  case round =>
    obtain ⟨k, hk, rfl, hby, hb⟩ := hrel
    have HB := Lib.hid hb; have HBY := Lib.hid hby
    clear hb hby
    by_cases hlt : k < 256
    · have t1 : decide ((k : Int) < 256) = true := decide_eq_true (by omega)
      have t2 : decide (k < 256) = true := decide_eq_true hlt
      have k0 : (0 : Int) ≤ (k : Int) := by omega
      have k1 : (k : Int) < 256 := by omega
      have ew : IntKind.u8.wrap (k : Int) = (k : Int) := IntWalk.u8_in _ (by omega)
      have hkl : k < (part k).length := by rw [part_length k hk]; exact hlt
      have hset := HBY.out.set k hkl (UInt8.ofNat k)
      rw [part_succ k hlt] at hset
      have e8 : ((UInt8.ofNat k).toNat : Int) = (k : Int) := by simp; omega
      rw [e8] at hset
      have HS := Lib.hid hset
      have HB2 := Lib.hid (below_put HB.out (a := ⟨g, k, none⟩) (by rw [HG.out]; exact Nat.le_refl _) (.int .u8 (k : Int)))
      have fK := HBY.out.free k hkl
      have cK := HBY.out.cell k hkl
      obtain ⟨ov, hov⟩ : ∃ ov : Int, ov = ((part k).getD k 0).toNat := ⟨_, rfl⟩
      rw [← hov] at cK
      clear hov hset hkl e8
      go_wp2_with fail
      go_roundw
      case rel => exact ⟨k + 1, by omega, by go_num, HS.out, HB2.out⟩
      case measure => simp [intOf]; omega
    · obtain rfl : k = 256 := by omega
      have hbk := Row.run_back HBY.out 256
      rw [part_length 256 (Nat.le_refl _)] at hbk
      obtain ⟨S, hS⟩ : ∃ S : ByteArray, S = ⟨(part 256).toArray⟩ := ⟨_, rfl⟩
      rw [← hS] at hbk
      have HS : Hid (S = freshB) := Lib.hid (by rw [hS]; unfold part freshB ofN freshL; simp)
      clear hS
      go_wp2_with fail
      go_ret
      exact ⟨by rw [← HS.out]; rfl, HB.out⟩
end Go.Proofs.Ytbcdnnppbggifaa.Mt
