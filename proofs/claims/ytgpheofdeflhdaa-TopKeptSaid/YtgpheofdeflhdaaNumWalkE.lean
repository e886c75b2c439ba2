/- The walks of appendNumber, number. The walks of the document's Five, Put, Of, Get; Short, the program's and the document's. The walks of Short, the program's and the document's. The walks of countShort, shortNumber, Read, the program's and the document's. The walk of the document's Read. -/
import Derived.Test.YtgpheofdeflhdaaRows
import Derived.Test.YtgpheofdeflhdaaNumMath
import Derived.Test.YtgpheofdeflhdaaClone
import Derived.Test.YtgpheofdeflhdaaRow
import Derived.Test.YtgpheofdeflhdaaBytesRow
import Derived.WalkSpells
import Derived.WalkLawsBesides
import Derived.Lib.Strings
import Derived.Lib.Hide
import Derived.Lib.AppendStr
import Derived.Deep.QuietTactic
import Derived.BigQuiet
import Derived.RegionTactic
import Derived.Deep.RegionHeld3
import Derived.Laws.BitsAllLaws
namespace Go.Proofs.Ytgpheofdeflhdaa.Nm
open Go.RowKit

theorem info_u8 : (Try.prog.info? 5).map (fun i => (i.zero, i.size, i.bytes)) = some (some (.int .u8 0), 1, 1) := by kernel_rfl
theorem ret_int {k : IntKind} {a b : Int} (h : a = b) : Ending.returned (.int k a) = .returned (.int k b) := by rw [h]
theorem ret_str {a b : ByteArray} {c d : Int} (h : a = b) (l : c = d) : Ending.returned (.tuple #[.string a, .int .i64 c]) = .returned (.tuple #[.string b, .int .i64 d]) := by rw [h, l]
theorem ret_num {k : IntKind} {a b : Int} {c d : Int} (h : a = b) (l : c = d) : Ending.returned (.tuple #[.int k a, .int .i64 c]) = .returned (.tuple #[.int k b, .int .i64 d]) := by rw [h, l]
theorem fiveL_at (n k : Nat) (hk : k < 5) : (fiveL n).take (k + 1) = (fiveL n).take k ++ [UInt8.ofNat (n / 2 ^ (32 - 8 * k))] := by
  match k, hk with
  | 0, _ => rfl
  | 1, _ => rfl
  | 2, _ => rfl
  | 3, _ => rfl
  | 4, _ => simp [fiveL]
theorem byte_val (n k : Nat) : ((n : Int) / 2 ^ k) % 256 = ((UInt8.ofNat (n / 2 ^ k)).toNat : Int) := by
  rw [UInt8.toNat_ofNat']
  have : (n : Int) / 2 ^ k = ((n / 2 ^ k : Nat) : Int) := by simp
  rw [this]; omega
theorem cells_snoc (L : List UInt8) (b : UInt8) : Lib.byteCells (L ++ [b]) = Lib.byteCells L ++ [.int .u8 (b.toNat : Int)] := by simp [Lib.byteCells]
theorem row_ge {w : World} {B : Nat} {e : TypeId} {v : Value} {n : Nat} {xs : List Value} (h : w.ownsRow B e 1 v n xs) : ∀ g, v.ownBlock = some g → B ≤ g := by
  intro g hg
  rcases h.2 with ⟨rfl, _⟩ | ⟨g', cap, cur, rfl, hb, _⟩
  · simp [Value.ownBlock] at hg
  · simp only [Value.ownBlock, Option.some.injEq] at hg; omega

set_option maxHeartbeats 2000000 in
theorem append_any (n : Nat) (v : Value) (m : Nat) (L : List UInt8) (w : World) (B : Nat) (hrow : w.ownsRow B 5 1 v m (Lib.byteCells L)) (hL : m ≤ 1000) (hB : B ≤ w.heap.size) :
    Calls Try.prog 16 #[v, .int .u64 n] w fun e w' => ∃ g cap, e = .returned (.slice (some ⟨g, 0, none⟩) (m + 5) cap) ∧ w'.ownsRow B 5 1 (.slice (some ⟨g, 0, none⟩) (m + 5) cap) (m + 5) (Lib.byteCells (L ++ fiveL n)) ∧ Below B w w' := by
  obtain ⟨i0, hi, hz0, hz1, hz2⟩ := info_parts info_u8
  have HR := Lib.hid hrow
  clear hrow
  go_enter Try.func16, Try.ntmps16
  go_wp2_with fail
  go_loopw [0, 5] (fun u i wr => ∃ k : Nat, k ≤ 5 ∧ i = .int .i64 (32 - 8 * (k : Int)) ∧ wr.ownsRow B 5 1 u (m + k) (Lib.byteCells (L ++ (fiveL n).take k)) ∧ Below B w wr) (fun _ i _ => (intOf i + 8).toNat)
  case atStart => exact ⟨0, by omega, rfl, by simpa using HR.out, Below.refl _ _⟩
  case round =>
    obtain ⟨k, hk, rfl, hown, hbl⟩ := hrel
    by_cases hlt : k < 5
    · obtain ⟨sh, hsh⟩ : ∃ sh, sh = 32 - 8 * k := ⟨_, rfl⟩
      have e1 : 32 - 8 * (k : Int) = (sh : Int) := by omega
      rw [e1]
      have hsh32 : sh ≤ 32 := by omega
      obtain ⟨x, hx⟩ : ∃ x, x = UInt8.ofNat (n / 2 ^ sh) := ⟨_, rfl⟩
      have hbv := byte_val n sh
      rw [← hx] at hbv
      have HE := Lib.hid e1; have HX := Lib.hid hx; have HS := Lib.hid hsh; have HO := Lib.hid hown; have HBL := Lib.hid hbl
      have hz := hbl.size
      clear hx hsh hown hbl e1
      go_wp2_with (at_builtin; refine Rw.push rfl _ _ 36 rfl B 5 i0 (.int .u8 0) 1 1 Try.underlying36 hi hz0 hz1 hz2 rfl (by decide) _ _ _ rfl HO.out [.int .u8 (x.toNat : Int)] rfl rfl rfl (by omega) (by omega) (by omega) ?_)
      intro g cap w2 hown2 _ _ _ hgr
      have hb4 := HBL.out.trans hgr
      have hown3 : w2.ownsRow B 5 1 (.slice (some ⟨g, 0, none⟩) (m + k + 1) cap) (m + (k + 1)) (Lib.byteCells (L ++ (fiveL n).take (k + 1))) := by
        rw [fiveL_at n k hlt, ← List.append_assoc, cells_snoc, ← HS.out, ← HX.out]; exact hown2
      have H3 := Lib.hid hown3; have H4 := Lib.hid hb4
      clear hown2 hgr hown3 hb4
      go_wp2_with fail
      go_roundw
      case rel => exact ⟨k + 1, by omega, by have := HE.out; go_num, H3.out, H4.out⟩
      case measure => have := HE.out; simp [intOf]; omega
    · obtain rfl : k = 5 := by omega
      have hf : (fiveL n).take 5 = fiveL n := rfl
      rw [hf] at hown
      obtain ⟨g, cap, rfl, _, _⟩ := hown.form (by omega)
      have HO := Lib.hid hown
      clear hown
      go_wp2_with fail
      go_ret
      exact ⟨_, _, rfl, HO.out, hbl⟩
theorem wrap_u64 (n : Int) : IntKind.u64.wrap n = n % 18446744073709551616 := by simp [IntKind.wrap, IntKind.bits, IntKind.signed]
theorem wrap_nat {n : Nat} (h : n < 18446744073709551616) : IntKind.u64.wrap (n : Int) = (n : Int) := by rw [wrap_u64]; omega
/-- a number with a byte more behind it -/
theorem or_val (v : Nat) (c : UInt8) (hv : v < 4294967296) : bits .or .u64 (IntKind.u64.wrap ((v : Int) * 256)) (IntKind.u64.wrap (c.toNat : Int)) = ((256 * v + c.toNat : Nat) : Int) := by
  have hc := c.toNat_lt
  have e1 : (v : Int) * 256 = ((256 * v : Nat) : Int) := by omega
  rw [e1, wrap_nat (by omega), wrap_nat (by omega), u64_or_nat _ _ (by omega) (by omega), nat_join 8 (256 * v) c.toNat (Nat.mul_mod_right _ _) hc]
theorem ofL_take (s : ByteArray) (k : Nat) (hk : k < s.size) : ofL (s.data.toList.take (k + 1)) = 256 * ofL (s.data.toList.take k) + (s[k]'hk).toNat := by
  rw [List.take_succ_eq_append_getElem (by simpa using hk), ofL_snoc]; rfl
theorem ofL_take_lt (l : List UInt8) (k : Nat) (hk : k ≤ 4) : ofL (l.take k) < 4294967296 := by
  have h := ofL_lt (l.take k)
  have h2 : 256 ^ (l.take k).length ≤ 256 ^ 4 := Nat.pow_le_pow_right (by decide) (by rw [List.length_take]; omega)
  omega

/-- what is read of a row of bytes -/
theorem own_cells {w : World} {B g n cap : Nat} {L : List UInt8} (h : w.ownsRow B 5 1 (.slice (some ⟨g, 0, none⟩) n cap) n (Lib.byteCells L)) (hn : L.length = n) :
    ∀ j, j < n → w.cell? ⟨g, j, none⟩ = some (.int .u8 ((L.getD j 0).toNat : Int)) := by
  intro j hj
  rw [h.cellAt j (by omega)]
  simp [Lib.byteCells, List.getD_eq_getElem?_getD, List.getElem?_eq_getElem (show j < L.length by omega)]
theorem run_own {w : World} {B g n cap : Nat} {L : List UInt8} (h : w.ownsRow B 5 1 (.slice (some ⟨g, 0, none⟩) n cap) n (Lib.byteCells L)) (hn : L.length = n) :
    (convert 36 9 (.slice (some ⟨g, 0, none⟩) n cap)).run Try.prog w = .ok (.string (ofB L)) w := by
  subst hn
  refine run_convert_bytes_back (P := Try.prog) w 36 9 5 ⟨g, 0, none⟩ cap L Try.underlying36 Try.underlying5 Try.underlying9 ?_
  intro j hj
  have e : ((⟨g, 0, none⟩ : Addr).add j) = ⟨g, j, none⟩ := by simp [Addr.add] <;> omega
  rw [e, own_cells h rfl j hj]
  simp [List.getD_eq_getElem?_getD, List.getElem?_eq_getElem hj]

end Go.Proofs.Ytgpheofdeflhdaa.Nm
namespace Go.Proofs.Ytgpheofdeflhdaa.Nm
open Go.RowKit

theorem byte_val0 (n : Nat) : (n : Int) % 256 = ((UInt8.ofNat n).toNat : Int) := by
  rw [UInt8.toNat_ofNat']; omega
theorem byte_div (n k : Nat) (hn : n < 18446744073709551616) : IntKind.u64.wrap ((n : Int) / k) % 256 = ((UInt8.ofNat (n / k)).toNat : Int) := by
  have h := byte_val0 (n / k)
  have hd := Nat.div_le_self n k
  have e : (n : Int) / k = ((n / k : Nat) : Int) := by simp
  rw [e, wrap_nat (by omega), ← h]

end Go.Proofs.Ytgpheofdeflhdaa.Nm
namespace Go.Proofs.Ytgpheofdeflhdaa.Nm
open Go.RowKit

theorem short_ten {n : Nat} (h : n < 1099511627776) : (shortL n).length ≤ 6 := shortL_length_le 5 n (by omega)
theorem byte_cont (c : Nat) : (c : Int) % 128 + 128 = ((UInt8.ofNat (c % 128 + 128)).toNat : Int) := by
  rw [UInt8.toNat_ofNat']; omega

end Go.Proofs.Ytgpheofdeflhdaa.Nm
namespace Go.Proofs.Ytgpheofdeflhdaa.Nm
open Go.RowKit

def csN (l : List UInt8) : Int := if cnt l < 6 ∧ cnt l < l.length then (cnt l : Int) + 1 else 0
def csE (l : List UInt8) : Int := if cnt l < 6 ∧ cnt l < l.length then 0 else if l.length < 6 then 5 else 7
theorem ret_two {a b c d : Int} (h : a = b) (l : c = d) : Ending.returned (.tuple #[.int .i64 a, .int .i64 c]) = .returned (.tuple #[.int .i64 b, .int .i64 d]) := by rw [h, l]
theorem getD_data (s : ByteArray) (k : Nat) (h : k < s.size) : s.data.toList.getD k 0 = s[k] := by
  rw [List.getD_eq_getElem?_getD, List.getElem?_eq_getElem (by simpa using h)]; rfl

theorem shortV_lt (l : List UInt8) : shortV l < 128 ^ l.length := by
  have h := shortV_take_lt l l.length
  rwa [List.take_length] at h
theorem shortV_drop (s : ByteArray) (k : Nat) (h : k < s.size) : shortV (s.data.toList.drop k) = (s[k]'h).toNat % 128 + 128 * shortV (s.data.toList.drop (k + 1)) := by
  have e : s.data.toList.drop k = s[k] :: s.data.toList.drop (k + 1) := List.drop_eq_getElem_cons (by simpa using h)
  rw [e, shortV]
theorem shortV_drop_lt (l : List UInt8) (k : Nat) (hl : l.length ≤ 6) : shortV (l.drop k) < 4398046511104 := by
  have h := shortV_lt (l.drop k)
  have h2 : 128 ^ (l.drop k).length ≤ 128 ^ 6 := Nat.pow_le_pow_right (by decide) (by rw [List.length_drop]; omega)
  omega

theorem ret_read {a b : Int} {c d : ByteArray} {e f : Int} (h : a = b) (k : c = d) (l : e = f) : Ending.returned (.tuple #[.int .u64 a, .string c, .int .i64 e]) = .returned (.tuple #[.int .u64 b, .string d, .int .i64 f]) := by rw [h, k, l]
theorem take_data (s : ByteArray) (n : Nat) : (s.extract 0 n).data.toList = s.data.toList.take n := by simp
theorem drop_data (s : ByteArray) (n : Nat) : s.extract n s.size = ofB (s.data.toList.drop n) := by
  apply data_inj; rw [ofB_data]; simp [List.take_of_length_le]

end Go.Proofs.Ytgpheofdeflhdaa.Nm
namespace Go.Proofs.Ytgpheofdeflhdaa.Nm
open Go.RowKit

theorem toList_data (s : ByteArray) : s.toList = s.data.toList := by obtain ⟨⟨l⟩⟩ := s; simp
theorem shortV_grow (s : ByteArray) (k : Nat) (h : k < s.size) : shortV (s.data.toList.take (k + 1)) = shortV (s.data.toList.take k) + 128 ^ k * ((s[k]'h).toNat % 128) := by
  have e : (s.data.toList.take k).length = k := by rw [List.length_take, size_data]; omega
  rw [List.take_succ_eq_append_getElem (by simpa using h), shortV_snoc, e]; rfl
theorem pow_128 {k : Nat} (h : k ≤ 5) : 128 ^ k ≤ 34359738368 := by
  have := Nat.pow_le_pow_right (n := 128) (by decide) h; simpa using this
theorem rd_found {l : List UInt8} {k v : Nat} (hk : cnt l = k) (h6 : k < 6) (hl : k < l.length) (hv : v = shortV (l.take (k + 1))) : rdE l = if v < 1099511627776 ∧ shortL v = l.take (k + 1) then 0 else 7 := by
  subst hk
  have hi := shortL_iff l hl
  unfold rdE
  rw [if_pos ⟨h6, hl⟩, ← hv]
  rw [← hv] at hi
  by_cases h1 : v < 1099511627776
  · by_cases h2 : shortL v = l.take (cnt l + 1)
    · rw [if_pos ⟨h1, hi.2 h2⟩, if_pos ⟨h1, h2⟩]
    · rw [if_neg (fun h => h2 (hi.1 h.2)), if_neg (fun h => h2 h.2)]
  · rw [if_neg (fun h => h1 h.1), if_neg (fun h => h1 h.1)]
theorem rd_seven {l : List UInt8} (h : rdE l = 7) : (0 : Int) = (rdN l : Nat) ∧ ⟨#[]⟩ = ofB (rdR l) ∧ 7 = rdE l := ⟨by unfold rdN; rw [h, if_neg (by omega)]; rfl, by unfold rdR; rw [h, if_neg (by omega)]; rfl, h.symm⟩
theorem rd_five {l : List UInt8} (h : rdE l = 5) : (0 : Int) = (rdN l : Nat) ∧ ⟨#[]⟩ = ofB (rdR l) ∧ 5 = rdE l := ⟨by unfold rdN; rw [h, if_neg (by omega)]; rfl, by unfold rdR; rw [h, if_neg (by omega)]; rfl, h.symm⟩

end Go.Proofs.Ytgpheofdeflhdaa.Nm
