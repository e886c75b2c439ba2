/- The walks of crc.More and wringerref02.More: what they return, and that they write nothing. -/
import Derived.Test.YtjbbkcnfilnmcaaDoorRows
import Derived.Test.YtjbbkcnfilnmcaaDoorCrcMath
import Derived.WalkKit
import Derived.WalkSpells
import Derived.WalkLawsBesides
import Derived.Lib.LaidTab
import Derived.Lib.Hide
namespace Go.Proofs.YtjbbkcnfilnmcaaDoor.Crc
open Go.RowKit

/-- the table lies in memory -/
def TabOk (w : World) : Prop := ∀ i : Nat, i < 16 → w.cell? ⟨0, i, none⟩ = some (.int .u32 (T.getD i 0 : Nat))
def bytes (s : ByteArray) : List UInt8 := s.data.toList
theorem take_snoc (s : ByteArray) (k : Nat) (h : k < s.size) : (bytes s).take (k + 1) = (bytes s).take k ++ [s[k]] := by
  unfold bytes
  rw [List.take_succ_eq_append_getElem (by simpa using h)]; rfl
theorem run_snoc (r : Nat) (l : List UInt8) (c : UInt8) : run r (l ++ [c]) = stepP (run r l) c.toNat := by rw [run_append]; rfl
theorem x32 {a b : Nat} (ha : a < 4294967296) (hb : b < 4294967296) : bits .xor .u32 (a : Int) (b : Int) = ((a ^^^ b : Nat) : Int) := u32_xor_nat a b ha hb
theorem and15 {a : Nat} (ha : a < 4294967296) : bits .and .u32 (a : Int) 15 = ((a % 16 : Nat) : Int) := by
  have := u32_and_nat a 15 ha (by decide)
  rw [nat_mask4] at this
  exact this
theorem byte_mod (c : UInt8) : ((c.toNat : Int) % 4294967296) = ((c.toNat : Nat) : Int) := by have := c.toNat_lt; omega
/-- what the byte's round finds -/
theorem round_facts (r : Nat) (hr : r < 4294967296) (c : UInt8) : ∃ a i1 t1 b i2 t2 r2 : Nat,
    bits .xor .u32 (r : Int) ((c.toNat : Int) % 4294967296) = a ∧ bits .and .u32 (a : Int) 15 = i1 ∧ i1 < 16 ∧ T.getD i1 0 = t1 ∧ bits .xor .u32 ((a : Int) / 16) (t1 : Int) = b ∧
    bits .and .u32 (b : Int) 15 = i2 ∧ i2 < 16 ∧ T.getD i2 0 = t2 ∧ bits .xor .u32 ((b : Int) / 16) (t2 : Int) = r2 ∧ r2 < 4294967296 ∧ r2 = stepP r c.toNat := by
  have hc := c.toNat_lt
  have ha : r ^^^ c.toNat < 4294967296 := xor_lt hr (by omega)
  have hb : q (r ^^^ c.toNat) < 4294967296 := q_lt ha
  refine ⟨r ^^^ c.toNat, (r ^^^ c.toNat) % 16, _, q (r ^^^ c.toNat), q (r ^^^ c.toNat) % 16, _, stepP r c.toNat, ?_, and15 ha, by omega, rfl, ?_, and15 hb, by omega, rfl, ?_, stepP_lt hr hc, rfl⟩
  · rw [byte_mod]; exact x32 hr (by omega)
  · exact x32 (a := (r ^^^ c.toNat) / 16) (by omega) (T_lt _ (by omega))
  · exact x32 (a := q (r ^^^ c.toNat) / 16) (by omega) (T_lt _ (by omega))
theorem not32 {a : Nat} (ha : a < 4294967296) : bits .xor .u32 (IntKind.u32.max) (a : Int) = (neg a : Nat) := by
  have h := u32_xor_nat 4294967295 a (by decide) ha
  rw [neg_xor ha, Nat.xor_comm]
  exact h
theorem ret_u32 {a b : Int} (h : a = b) : Ending.returned (.int .u32 a) = .returned (.int .u32 b) := by rw [h]

set_option maxHeartbeats 400000 in
theorem more_any (sum : Nat) (h1 : sum < 4294967296) (s : ByteArray) (w : World) (hs : s.size ≤ maxLen) (ht : TabOk w) :
    Calls Tryd.prog 23 #[.int .u32 sum, .string s] w fun e w' => e = .returned (.int .u32 (more sum (bytes s) : Nat)) ∧ w = w' := by
  unfold maxLen at hs
  have hn := not32 h1
  obtain ⟨n0, hn0⟩ : ∃ n0, neg sum = n0 := ⟨_, rfl⟩
  have hn1 : n0 < 4294967296 := by rw [← hn0]; exact neg_lt _
  rw [hn0] at hn
  have HN := Lib.hid hn0; clear hn0
  go_enter Tryd.func23, Tryd.ntmps23
  go_wp2
  go_loop [5, 11] (fun r i => ∃ (k : Nat) (r' : Nat), k ≤ s.size ∧ i = .int .i64 k ∧ r' < 4294967296 ∧ r' = run n0 ((bytes s).take k) ∧ r = .int .u32 r') (fun _ i => s.size - (intOf i).toNat)
  case atStart => exact ⟨0, n0, by omega, rfl, hn1, rfl, rfl⟩
  case round =>
    obtain ⟨k, r, hk, rfl, hr, hrun, rfl⟩ := hrel
    have HR := Lib.hid hrun; clear hrun
    by_cases hlt : k < s.size
    · obtain ⟨a, i1, t1, b, i2, t2, r2, e1, e2, l1, ht1, e3, e4, l2, ht2, e5, l5, e6⟩ := round_facts r hr s[k]
      have c1 : w.cell? ⟨0, i1, none⟩ = some (.int .u32 (t1 : Nat)) := by rw [← ht1]; exact ht i1 l1
      have c2 : w.cell? ⟨0, i2, none⟩ = some (.int .u32 (t2 : Nat)) := by rw [← ht2]; exact ht i2 l2
      have hfin : r2 = run n0 ((bytes s).take (k + 1)) := by rw [take_snoc s k hlt, run_snoc, ← HR.out, e6]
      have HF := Lib.hid hfin; clear hfin e6 ht1 ht2
      go_wp2
      go_round
      case rel => exact ⟨k + 1, r2, by omega, by go_num, l5, HF.out, rfl⟩
      case measure => simp [intOf]; omega
    · have hfin : (bytes s).take k = bytes s := List.take_of_length_le (by simp [bytes]; omega)
      have hx := not32 hr
      have HF : Hid ((neg r : Nat) = more sum (bytes s)) := Lib.hid (by rw [HR.out, hfin]; unfold more; rw [HN.out])
      clear hfin
      go_wp2
      go_ret
      exact ⟨ret_u32 (by rw [HF.out]), rfl⟩
end Go.Proofs.YtjbbkcnfilnmcaaDoor.Crc
