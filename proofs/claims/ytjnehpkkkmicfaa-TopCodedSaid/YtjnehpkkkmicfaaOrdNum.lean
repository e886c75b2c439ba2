/- The walk of the document's Numbers. The walk of the document's Inverse. The walk of the document's Right. -/
import Derived.Test.YtjnehpkkkmicfaaOrdI
import Derived.Test.YtjnehpkkkmicfaaLsWalkA
import Derived.Lib.Hide
import Derived.IntWalk
import Derived.Test.YtjnehpkkkmicfaaArr
namespace Go.Proofs.Ytjnehpkkkmicfaa.Od
open Go.RowKit Go.Lib Rw Nm Ls

/-- a text's bytes, as numbers -/
def bsN (s : ByteArray) : List Nat := s.data.toList.map UInt8.toNat
theorem bsN_length (s : ByteArray) : (bsN s).length = s.size := by simp [bsN]
theorem bsN_at (s : ByteArray) (k : Nat) (h : k < s.size) : (bsN s)[k]'(by rw [bsN_length]; exact h) = (s[k]'h).toNat := by simp [bsN]; rfl
theorem bsN_take (s : ByteArray) (k : Nat) (h : k < s.size) : (bsN s).take (k + 1) = (bsN s).take k ++ [(s[k]'h).toNat] := by
  rw [List.take_succ_eq_append_getElem (by rw [bsN_length]; exact h), bsN_at s k h]
/-- an answer that is a row of numbers in new memory -/
def NumsP (w : World) (L : List Nat) (e : Ending) (w' : World) : Prop := ∃ (q : Option Addr) (c : Nat), e = .returned (.slice q L.length c) ∧ L.length ≤ c ∧ Rd w' q (nums L) ∧ NewAt w.heap.size q ∧ Below w.heap.size w w'
theorem own_rdN {w : World} {B : Nat} {e : TypeId} {s : Nat} {v : Value} {n : Nat} {xs : List Value} (h : w.ownsRow B e s v n xs) : ∃ (q : Option Addr) (c : Nat), v = .slice q n c ∧ n ≤ c ∧ Rd w q xs ∧ NewAt B q := by
  rcases h.2 with ⟨rfl, h0⟩ | ⟨g, cap, cur, rfl, hb, hh, hc, r⟩
  · have hn : n = 0 := by first | exact h0 | (have := h.1; omega)
    subst hn
    refine ⟨none, 0, rfl, Nat.le_refl _, ?_, fun a e => by cases e⟩
    have : xs = [] := List.eq_nil_of_length_eq_zero (by have := h.1; omega)
    rw [this]; exact Rd.nil _ _
  · exact ⟨_, _, rfl, hc, Rd.of_own h, fun a e => by cases e; exact hb⟩
end Go.Proofs.Ytjnehpkkkmicfaa.Od
namespace Go.Proofs.Ytjnehpkkkmicfaa.Od
open Go.RowKit Go.Lib Rw Nm Ls

theorem info_bool : (Try.prog.info? 4).map (fun i => (i.zero, i.size, i.bytes)) = some (some (.bool false), 1, 1) := by kernel_rfl
def invL (L : List Int) : List Nat := (inv L).getD []
def invE (L : List Int) : Int := if (inv L).isSome then 0 else 2
/-- cells that may be written -/
def Fz (w : World) (q : Option Addr) (n : Nat) : Prop := ∀ a, q = some a → ∀ i, i < n → w.frozen? (a.add i) = false
theorem Fz.zero (w : World) (q : Option Addr) : Fz w q 0 := fun _ _ i h => absurd h (by omega)
theorem Fz.of_own {w : World} {B : Nat} {e : TypeId} {g n cap : Nat} {xs : List Value} (h : w.ownsRow B e 1 (.slice (some ⟨g, 0, none⟩) n cap) n xs) (m : Nat) : Fz w (some ⟨g, 0, none⟩) m := fun a e i _ => by
  cases e
  have e1 : ((⟨g, 0, none⟩ : Addr).add i) = ⟨g, i, none⟩ := by simp [Addr.add] <;> omega
  rw [e1]; exact h.frozenAt i
theorem Fz.below {w w' : World} {q : Option Addr} {n : Nat} {xs : List Value} (h : Fz w q n) (hb : Below w.heap.size w w') (hr : Rd w q xs) (hn : n ≤ xs.length) : Fz w' q n := fun a e i hi => by
  obtain ⟨a', e', hl, _⟩ := hr i (by omega)
  have : a' = a := by rw [e] at e'; cases e'; rfl
  subst this
  rw [hb.frozen (by rw [add_block]; exact hl)]; exact h _ e i hi
/-- an answer that is a row of places in new memory, and an error's number -/
def PlacesP (w : World) (L : List Nat) (r : Int) (e : Ending) (w' : World) : Prop := ∃ (q : Option Addr) (c : Nat), e = .returned (.tuple #[.slice q L.length c, .int .i64 r]) ∧ L.length ≤ c ∧ Rd w' q (zs (up L)) ∧ NewAt w.heap.size q ∧ Fz w' q L.length ∧ Below w.heap.size w w'
theorem zs_zeros (n : Nat) : List.replicate n (Value.int .i64 0) = zs (up (List.replicate n 0)) := by simp [zs, up]
theorem inv_no {L : List Int} (h : inv L = none) : invL L = [] ∧ invE L = 2 := by unfold invL invE; rw [h]; exact ⟨rfl, rfl⟩
theorem inv_yes {L : List Int} {M : List Nat} (h : inv L = some M) : invL L = M ∧ invE L = 0 := by unfold invL invE; rw [h]; exact ⟨rfl, rfl⟩
theorem places_no {w w' : World} {L : List Nat} {r : Int} (h : L = []) (hb : Below w.heap.size w w') : PlacesP w L r (.returned (.tuple #[.slice none 0 0, .int .i64 r])) w' := by
  subst h
  exact ⟨none, 0, rfl, Nat.le_refl _, Rd.nil _ _, fun a e => (by cases e), Fz.zero _ _, hb⟩
end Go.Proofs.Ytjnehpkkkmicfaa.Od
namespace Go.Proofs.Ytjnehpkkkmicfaa.Od
open Go.RowKit Go.Lib Rw Nm Ls

theorem less_ends (l : List Nat) (ad : Addr) (n c x y : Nat) (w : World) (hn : n = l.length) (hr : Rd w (some ad) (nums l)) (hl : n ≤ 17592186044416) (hx : x < n) (hy : y < n) :
    ∀ z, Calls Try.prog 36 #[.slice (some (ad.add x)) (n - x) (c - x), .slice (some (ad.add y)) (n - y) (c - y)] (w.drewN z) fun e w' => e = .returned (.bool (lt l x y)) ∧ ∃ m, w' = w.drewN m := fun z => by
  have h1 := hr.cut x (by rw [nums_length]; omega)
  have h2 := hr.cut y (by rw [nums_length]; omega)
  have e1 : (nums l).drop x = nums (l.drop x) := by simp [nums, List.map_drop]
  have e2 : (nums l).drop y = nums (l.drop y) := by simp [nums, List.map_drop]
  rw [e1] at h1
  rw [e2] at h2
  have h := rless_any (l.drop x) (l.drop y) _ _ (c - x) (c - y) (w.drewN z) (h1.drewN z) (h2.drewN z) (by rw [List.length_drop]; omega) (by rw [List.length_drop]; omega)
  rw [List.length_drop, List.length_drop, ← hn] at h
  exact quiet_at h
theorem chain_false {l P : List Nat} {k n : Nat} (h0 : 0 < k) (hk : k < n) (hl : lt l (P.getD (k - 1) 0) (P.getD k 0) = false) : chain l P n = false := by
  cases hc : chain l P n with
  | false => rfl
  | true =>
    simp only [chain, List.all_eq_true, List.mem_range, Bool.or_eq_true, decide_eq_true_eq] at hc
    rcases hc k hk with e | e
    · omega
    · rw [hl] at e; cases e
end Go.Proofs.Ytjnehpkkkmicfaa.Od
