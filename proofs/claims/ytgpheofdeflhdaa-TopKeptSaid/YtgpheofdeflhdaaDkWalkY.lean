/- The walk of Crash. -/
import Derived.Test.YtgpheofdeflhdaaDkWalkX
import Derived.Test.YtgpheofdeflhdaaRd
namespace Go.Proofs.Ytgpheofdeflhdaa.Dk
open Go.RowKit Go.Op

def bools (K : List Bool) : List Value := K.map Value.bool
theorem bools_getD (K : List Bool) (i : Nat) (h : i < K.length) : (bools K).getD i (.bool false) = .bool (K.getD i false) := by
  simp [bools, List.getD_eq_getElem?_getD, List.getElem?_eq_getElem h]
def kpK (K : List Bool) (i : Nat) : Bool := K.getD i false
set_option maxHeartbeats 4000000 in
set_option maxRecDepth 100000 in
theorem crash1_any (K : List Bool) (pK : Option Addr) (nK cK i b : Nat) (w : World) (hn : nK = K.length) (hK : Rw.Rd w pK (bools K)) (q : w.cell? ⟨b, 0, none⟩ = some (.slice pK nK cK)) (hi : i ≤ 1000000000) :
    Calls Try.prog 27 #[.int .i64 i, .pointer (some ⟨b, 0, none⟩)] w fun e w' => e = .returned (.bool (kpK K i)) ∧ Below w.heap.size w w' := by
  by_cases hlt : i < nK
  · obtain ⟨a, rfl, hl, hc⟩ := hK i (by simp [bools]; omega)
    rw [bools_getD K i (by omega)] at hc
    obtain ⟨v, hv⟩ : ∃ v, v = K.getD i false := ⟨_, rfl⟩
    have F : Hid (v = kpK K i) := Lib.hid hv
    rw [← hv] at hc
    have t1 : decide ((i : Int) < (nK : Int)) = true := decide_eq_true (by omega)
    have m0 : (0 : Int) ≤ (i : Int) := by omega
    have m1 : (i : Int) < (nK : Int) := by omega
    clear hv hn hK
    go_enter Try.func27, Try.ntmps27
    go_wp2_with fail
    go_ret
    exact ⟨ret_bool F.out, Below.refl _ _⟩
  · have F : Hid (false = kpK K i) := Lib.hid (by
      unfold kpK
      rw [List.getD_eq_getElem?_getD, List.getElem?_eq_none (by omega)]
      rfl)
    have t1 : decide ((i : Int) < (nK : Int)) = false := decide_eq_false (by omega)
    clear hn hK
    go_enter Try.func27, Try.ntmps27
    go_wp2_with fail
    go_ret
    exact ⟨ret_bool F.out, Below.refl _ _⟩

def craD (z : Int) (E : List Ext) (L : List Wr) (fz : Int) (K : List Bool) : Dsk := if chkE z E L fz = 0 then ⟨z, setlE (kpK K) 0 L E, [], -1, false⟩ else Dsk0
end Go.Proofs.Ytgpheofdeflhdaa.Dk
