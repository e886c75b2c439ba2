/- The program's own Lengths, Cost, Room, as the laws ask for them. -/
import Derived.Test.YtbegngilbngnoaaPsJ
namespace Go.Proofs.Ytbegngilbngnoaa.Pk
open Go.RowKit Go.Lib Rw Ls Od _root_.Go.Proofs.Ytbegngilbngnoaa.Nm

/-- ints in memory, how many being a number -/
def IEn (W : World) (n : Nat) (L : List Nat) (r : Int) (e : Ending) (w' : World) : Prop := ∃ (q : Option Addr) (c : Nat), e = .returned (.tuple #[.slice q n c, .int .i64 r]) ∧ n ≤ c ∧ Rd w' q (zs (up L)) ∧ Below W.heap.size W w'
theorem ien_of {W : World} {n : Nat} {o : List Nat × Int} {L : List Nat} {r : Int} (h : o = (L, r)) (hn : L.length = n) {f : FuncId} {a : Array Value} {P : Program} (hc : Calls P f a W (IE W o)) : Calls P f a W (IEn W n L r) := by subst h; subst hn; exact hc
theorem plengths_any (ws : List Nat) (lim : Int) (p : Option Addr) (c : Nat) (w : World) (hp : Rd w p (nums ws)) (hl : ws.length ≤ 17592186044416) :
    Calls Try.prog 8 #[.slice p ws.length c, .int .i64 lim] w (IE w (lenR ws lim)) := Ps.plengths_any ws lim p c w hp hl
theorem pcost_any (ws : List Nat) (ls : List Int) (p q : Option Addr) (c d : Nat) (w : World) (hp : Rd w p (nums ws)) (hq : Rd w q (zs ls)) (hl : ws.length ≤ 17592186044416) (hm : ls.length ≤ 17592186044416) :
    Calls Try.prog 10 #[.slice p ws.length c, .slice q ls.length d] w fun e w' => e = .returned (.tuple #[.int .u64 ((costR ws ls).1 : Nat), .int .i64 (costR ws ls).2]) ∧ Below w.heap.size w w' :=
  (Ps.pcostw_any ws ls p q c d w hp hq hl hm).mono fun _ _ ⟨h1, h2⟩ => ⟨h1, h2 ▸ Below.refl _ _⟩
theorem proom_any (ls : List Int) (lim : Int) (q : Option Addr) (d : Nat) (w : World) (hq : Rd w q (zs ls)) (hm : ls.length ≤ 17592186044416) (hlim : -9223372036854775808 ≤ lim ∧ lim ≤ 9223372036854775807) :
    Calls Try.prog 12 #[.slice q ls.length d, .int .i64 lim] w fun e w' => e = .returned (.tuple #[.int .i64 (roomR ls lim).1, .int .i64 (roomR ls lim).2]) ∧ Below w.heap.size w w' :=
  (Ps.proomw_any ls lim q d w hq hm hlim).mono fun _ _ ⟨h1, h2⟩ => ⟨h1, h2 ▸ Below.refl _ _⟩
end Go.Proofs.Ytbegngilbngnoaa.Pk
