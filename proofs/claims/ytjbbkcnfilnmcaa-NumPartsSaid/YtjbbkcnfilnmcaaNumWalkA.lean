/- The walks of appendNumber, number. -/
import Derived.Test.YtjbbkcnfilnmcaaRows
import Derived.Test.YtjbbkcnfilnmcaaNumMath
import Derived.Test.YtjbbkcnfilnmcaaClone
import Derived.Test.YtjbbkcnfilnmcaaRow
import Derived.Test.YtjbbkcnfilnmcaaBytesRow
import Derived.WalkSpells
import Derived.WalkLawsBesides
import Derived.Lib.Strings
import Derived.Lib.Hide
import Derived.Lib.AppendStr
import Derived.Deep.QuietTactic
import Derived.BigQuiet
import Derived.RegionTactic
import Derived.Deep.RegionHeld3
import Derived.Laws.BitsAllLaws
namespace Go.Proofs.Ytjbbkcnfilnmcaa.Nm
open Go.RowKit

theorem info_u8 : (Try.prog.info? 5).map (fun i => (i.zero, i.size, i.bytes)) = some (some (.int .u8 0), 1, 1) := by kernel_rfl
theorem ret_int {k : IntKind} {a b : Int} (h : a = b) : Ending.returned (.int k a) = .returned (.int k b) := by rw [h]
theorem ret_str {a b : ByteArray} {c d : Int} (h : a = b) (l : c = d) : Ending.returned (.tuple #[.string a, .int .i64 c]) = .returned (.tuple #[.string b, .int .i64 d]) := by rw [h, l]
theorem ret_num {k : IntKind} {a b : Int} {c d : Int} (h : a = b) (l : c = d) : Ending.returned (.tuple #[.int k a, .int .i64 c]) = .returned (.tuple #[.int k b, .int .i64 d]) := by rw [h, l]
theorem fiveL_at (n k : Nat) (hk : k < 5) : (fiveL n).take (k + 1) = (fiveL n).take k ++ [UInt8.ofNat (n / 2 ^ (32 - 8 * k))] := by
  match k, hk with
  | 0, _ => rfl
  | 1, _ => rfl
  | 2, _ => rfl
  | 3, _ => rfl
  | 4, _ => simp [fiveL]
theorem byte_val (n k : Nat) : ((n : Int) / 2 ^ k) % 256 = ((UInt8.ofNat (n / 2 ^ k)).toNat : Int) := by
  rw [UInt8.toNat_ofNat']
  have : (n : Int) / 2 ^ k = ((n / 2 ^ k : Nat) : Int) := by simp
  rw [this]; omega
theorem cells_snoc (L : List UInt8) (b : UInt8) : Lib.byteCells (L ++ [b]) = Lib.byteCells L ++ [.int .u8 (b.toNat : Int)] := by simp [Lib.byteCells]
theorem row_ge {w : World} {B : Nat} {e : TypeId} {v : Value} {n : Nat} {xs : List Value} (h : w.ownsRow B e 1 v n xs) : ∀ g, v.ownBlock = some g → B ≤ g := by
  intro g hg
  rcases h.2 with ⟨rfl, _⟩ | ⟨g', cap, cur, rfl, hb, _⟩
  · simp [Value.ownBlock] at hg
  · simp only [Value.ownBlock, Option.some.injEq] at hg; omega

set_option maxHeartbeats 2000000 in
theorem append_any (n : Nat) (v : Value) (m : Nat) (L : List UInt8) (w : World) (B : Nat) (hrow : w.ownsRow B 5 1 v m (Lib.byteCells L)) (hL : m ≤ 1000) (hB : B ≤ w.heap.size) :
    Calls Try.prog 45 #[v, .int .u64 n] w fun e w' => ∃ g cap, e = .returned (.slice (some ⟨g, 0, none⟩) (m + 5) cap) ∧ w'.ownsRow B 5 1 (.slice (some ⟨g, 0, none⟩) (m + 5) cap) (m + 5) (Lib.byteCells (L ++ fiveL n)) ∧ Below B w w' := by
  obtain ⟨i0, hi, hz0, hz1, hz2⟩ := info_parts info_u8
  have HR := Lib.hid hrow
  clear hrow
  go_enter Try.func45, Try.ntmps45
  go_wp2_with fail
  go_loopw [0, 5] (fun u i wr => ∃ k : Nat, k ≤ 5 ∧ i = .int .i64 (32 - 8 * (k : Int)) ∧ wr.ownsRow B 5 1 u (m + k) (Lib.byteCells (L ++ (fiveL n).take k)) ∧ Below B w wr) (fun _ i _ => (intOf i + 8).toNat)
  case atStart => exact ⟨0, by omega, rfl, by simpa using HR.out, Below.refl _ _⟩
  case round =>
    obtain ⟨k, hk, rfl, hown, hbl⟩ := hrel
    by_cases hlt : k < 5
    · obtain ⟨sh, hsh⟩ : ∃ sh, sh = 32 - 8 * k := ⟨_, rfl⟩
      have e1 : 32 - 8 * (k : Int) = (sh : Int) := by omega
      rw [e1]
      have hsh32 : sh ≤ 32 := by omega
      obtain ⟨x, hx⟩ : ∃ x, x = UInt8.ofNat (n / 2 ^ sh) := ⟨_, rfl⟩
      have hbv := byte_val n sh
      rw [← hx] at hbv
      have HE := Lib.hid e1; have HX := Lib.hid hx; have HS := Lib.hid hsh; have HO := Lib.hid hown; have HBL := Lib.hid hbl
      have hz := hbl.size
      clear hx hsh hown hbl e1
      go_wp2_with (at_builtin; refine Rw.push rfl _ _ 63 rfl B 5 i0 (.int .u8 0) 1 1 Try.underlying63 hi hz0 hz1 hz2 rfl (by decide) _ _ _ rfl HO.out [.int .u8 (x.toNat : Int)] rfl rfl rfl (by omega) (by omega) (by omega) ?_)
      intro g cap w2 hown2 _ _ _ hgr
      have hb4 := HBL.out.trans hgr
      have hown3 : w2.ownsRow B 5 1 (.slice (some ⟨g, 0, none⟩) (m + k + 1) cap) (m + (k + 1)) (Lib.byteCells (L ++ (fiveL n).take (k + 1))) := by
        rw [fiveL_at n k hlt, ← List.append_assoc, cells_snoc, ← HS.out, ← HX.out]; exact hown2
      have H3 := Lib.hid hown3; have H4 := Lib.hid hb4
      clear hown2 hgr hown3 hb4
      go_wp2_with fail
      go_roundw
      case rel => exact ⟨k + 1, by omega, by have := HE.out; go_num, H3.out, H4.out⟩
      case measure => have := HE.out; simp [intOf]; omega
    · obtain rfl : k = 5 := by omega
      have hf : (fiveL n).take 5 = fiveL n := rfl
      rw [hf] at hown
      obtain ⟨g, cap, rfl, _, _⟩ := hown.form (by omega)
      have HO := Lib.hid hown
      clear hown
      go_wp2_with fail
      go_ret
      exact ⟨_, _, rfl, HO.out, hbl⟩
theorem wrap_u64 (n : Int) : IntKind.u64.wrap n = n % 18446744073709551616 := by simp [IntKind.wrap, IntKind.bits, IntKind.signed]
theorem wrap_nat {n : Nat} (h : n < 18446744073709551616) : IntKind.u64.wrap (n : Int) = (n : Int) := by rw [wrap_u64]; omega
/-- a number with a byte more behind it -/
theorem or_val (v : Nat) (c : UInt8) (hv : v < 4294967296) : bits .or .u64 (IntKind.u64.wrap ((v : Int) * 256)) (IntKind.u64.wrap (c.toNat : Int)) = ((256 * v + c.toNat : Nat) : Int) := by
  have hc := c.toNat_lt
  have e1 : (v : Int) * 256 = ((256 * v : Nat) : Int) := by omega
  rw [e1, wrap_nat (by omega), wrap_nat (by omega), u64_or_nat _ _ (by omega) (by omega), nat_join 8 (256 * v) c.toNat (Nat.mul_mod_right _ _) hc]
theorem ofL_take (s : ByteArray) (k : Nat) (hk : k < s.size) : ofL (s.data.toList.take (k + 1)) = 256 * ofL (s.data.toList.take k) + (s[k]'hk).toNat := by
  rw [List.take_succ_eq_append_getElem (by simpa using hk), ofL_snoc]; rfl
theorem ofL_take_lt (l : List UInt8) (k : Nat) (hk : k ≤ 4) : ofL (l.take k) < 4294967296 := by
  have h := ofL_lt (l.take k)
  have h2 : 256 ^ (l.take k).length ≤ 256 ^ 4 := Nat.pow_le_pow_right (by decide) (by rw [List.length_take]; omega)
  omega

set_option maxHeartbeats 1000000 in
theorem number_str (s : ByteArray) (hs : s.size = 5) (w : World) :
    Calls Try.prog 47 #[.string s] w fun e w' => e = .returned (.int .u64 (ofL s.data.toList : Nat)) ∧ w = w' := by
  have HS := Lib.hid hs
  have hs5 : s.size ≤ 5 := by omega
  clear hs
  go_enter Try.func47, Try.ntmps47
  go_wp2_with fail
  go_loop [3, 7] (fun v i => ∃ k : Nat, k ≤ s.size ∧ i = .int .i64 k ∧ v = .int .u64 (ofL (s.data.toList.take k) : Nat)) (fun _ i => s.size - (intOf i).toNat)
  case atStart => exact ⟨0, by omega, rfl, rfl⟩
  case round =>
    obtain ⟨k, hk, rfl, rfl⟩ := hrel
    by_cases hlt : k < s.size
    · have hv := or_val (ofL (s.data.toList.take k)) (s[k]'hlt) (ofL_take_lt _ _ (by omega))
      have ht := ofL_take s k hlt
      rw [← ht] at hv
      have HT := Lib.hid ht
      clear ht
      go_wp2_with fail
      go_round
      case rel => exact ⟨k + 1, by omega, by go_num, rfl⟩
      case measure => simp [intOf]; omega
    · obtain rfl : k = s.size := by omega
      go_wp2_with fail
      go_ret
      exact ⟨ret_int (by rw [List.take_of_length_le (by simp)]), rfl⟩

/-- what is read of a row of bytes -/
theorem own_cells {w : World} {B g n cap : Nat} {L : List UInt8} (h : w.ownsRow B 5 1 (.slice (some ⟨g, 0, none⟩) n cap) n (Lib.byteCells L)) (hn : L.length = n) :
    ∀ j, j < n → w.cell? ⟨g, j, none⟩ = some (.int .u8 ((L.getD j 0).toNat : Int)) := by
  intro j hj
  rw [h.cellAt j (by omega)]
  simp [Lib.byteCells, List.getD_eq_getElem?_getD, List.getElem?_eq_getElem (show j < L.length by omega)]
theorem run_own {w : World} {B g n cap : Nat} {L : List UInt8} (h : w.ownsRow B 5 1 (.slice (some ⟨g, 0, none⟩) n cap) n (Lib.byteCells L)) (hn : L.length = n) :
    (convert 63 9 (.slice (some ⟨g, 0, none⟩) n cap)).run Try.prog w = .ok (.string (ofB L)) w := by
  subst hn
  refine run_convert_bytes_back (P := Try.prog) w 63 9 5 ⟨g, 0, none⟩ cap L Try.underlying63 Try.underlying5 Try.underlying9 ?_
  intro j hj
  have e : ((⟨g, 0, none⟩ : Addr).add j) = ⟨g, j, none⟩ := by simp [Addr.add] <;> omega
  rw [e, own_cells h rfl j hj]
  simp [List.getD_eq_getElem?_getD, List.getElem?_eq_getElem hj]

set_option maxHeartbeats 1000000 in
set_option maxRecDepth 100000 in
theorem put_any (n : Nat) (w : World) : Calls Try.prog 19 #[.int .u64 n] w fun e w' => e = .returned (.tuple #[.string (putS n), .int .i64 (putE n)]) ∧ Below w.heap.size w w' := by
  by_cases h : n < 1099511627776
  · have F : Hid (ofB (fiveL n) = putS n ∧ 0 = putE n) := Lib.hid ⟨(if_pos h).symm, (if_pos h).symm⟩
    have t : decide ((1099511627776 : Int) ≤ (n : Int)) = false := decide_eq_false (by omega)
    clear h
    go_enter Try.func19, Try.ntmps19
    go_wp2_with fail
    refine (append_any n _ 0 [] _ w.heap.size (World.ownsRow_nil _ _ _ _) (by omega) (Nat.le_refl _)).mono ?_
    rintro e w1 ⟨g, cap, rfl, hown, hb⟩
    have hbk := run_own hown (by rfl)
    have HB := Lib.hid hb
    clear hown hb
    go_wp2_with fail
    go_ret2
    exact ⟨ret_str F.out.1 F.out.2, HB.out⟩
  · have F : Hid (⟨#[]⟩ = putS n ∧ 1 = putE n) := Lib.hid ⟨(if_neg h).symm, (if_neg h).symm⟩
    have t : decide ((1099511627776 : Int) ≤ (n : Int)) = true := decide_eq_true (by omega)
    clear h
    go_enter Try.func19, Try.ntmps19
    go_wp2_with fail
    go_ret2
    exact ⟨ret_str F.out.1 F.out.2, Below.refl _ _⟩

theorem get_any (s : ByteArray) (w : World) : Calls Try.prog 21 #[.string s] w fun e w' => e = .returned (.tuple #[.int .u64 (getN s : Nat), .int .i64 (getE s)]) ∧ w = w' := by
  by_cases h : s.size = 5
  · have F : Hid (((ofL s.data.toList : Nat) : Int) = (getN s : Nat) ∧ 0 = getE s) := Lib.hid ⟨by unfold getN; rw [if_pos h], (if_pos h).symm⟩
    have t : ((s.size : Int) != 5) = false := by rw [bne_eq_false_iff_eq]; omega
    have H := Lib.hid h
    clear h
    go_enter Try.func21, Try.ntmps21
    go_wp2_with fail
    refine (number_str s H.out _).mono ?_
    rintro e w1 ⟨rfl, rfl⟩
    go_wp2_with fail
    go_ret2
    exact ⟨ret_num F.out.1 F.out.2, rfl⟩
  · have F : Hid ((0 : Int) = (getN s : Nat) ∧ 5 = getE s) := Lib.hid ⟨by unfold getN; rw [if_neg h]; rfl, (if_neg h).symm⟩
    have t : ((s.size : Int) != 5) = true := by rw [bne_iff_ne]; omega
    clear h
    go_enter Try.func21, Try.ntmps21
    go_wp2_with fail
    go_ret2
    exact ⟨ret_num F.out.1 F.out.2, rfl⟩
end Go.Proofs.Ytjbbkcnfilnmcaa.Nm
