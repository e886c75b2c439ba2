/- The walks of isMany, of beats (the program's and the document's), of slices.Equal over numbers. The walks of build, and of the document's both and tree. The walks of slices.Clone over numbers. -/
import Derived.Test.YtjnehpkkkmicfaaLsLess
import Derived.Laws.OwnMore
import Derived.Test.YtjnehpkkkmicfaaLsRow
import Derived.Deep.CutRange
import Derived.Lib.LazyBuf
namespace Go.Proofs.Ytjnehpkkkmicfaa.Ls
open Go.RowKit Rw Nm

def zs (L : List Int) : List Value := L.map fun (n : Int) => Value.int .i64 n
theorem zs_length (L : List Int) : (zs L).length = L.length := by simp [zs]
theorem zs_getD (L : List Int) (k : Nat) (h : k < L.length) : (zs L).getD k (.bool false) = .int .i64 (L.getD k 0) := by
  simp [zs, List.getD_eq_getElem?_getD, List.getElem?_eq_getElem h]
theorem zs_set (L : List Int) (k : Nat) (v : Int) : (zs L).set k (.int .i64 v) = zs (L.set k v) := by simp [zs, List.map_set]
theorem zs_snoc (L : List Int) (n : Int) : zs (L ++ [n]) = zs L ++ [.int .i64 n] := by simp [zs]
theorem rd_z {w : World} {A : Option Addr} {L : List Int} (h : Rd w A (zs L)) (k : Nat) (hk : k < L.length) : ∃ a : Addr, A = some a ∧ w.cell? (a.add k) = some (.int .i64 (L.getD k 0)) := by
  obtain ⟨a, e, _, hc⟩ := h k (by rw [zs_length]; exact hk)
  exact ⟨a, e, by rw [hc, zs_getD L k hk]⟩
/-- places, as numbers of the program -/
def up (L : List Nat) : List Int := L.map fun (n : Nat) => (n : Int)
theorem up_length (L : List Nat) : (up L).length = L.length := by simp [up]
theorem up_getD (L : List Nat) (k : Nat) (h : k < L.length) : (up L).getD k 0 = (L.getD k 0 : Nat) := by
  simp [up, List.getD_eq_getElem?_getD, List.getElem?_eq_getElem h]
theorem up_set (L : List Nat) (k v : Nat) : (up L).set k (v : Int) = up (L.set k v) := by simp [up, List.map_set]
theorem up_inj : ∀ {L M : List Nat}, up L = up M → L = M
  | [], [], _ => rfl
  | [], _ :: _, h => by simp [up] at h
  | _ :: _, [], h => by simp [up] at h
  | a :: L, b :: M, h => by
    simp only [up, List.map_cons, List.cons.injEq] at h
    have h1 : a = b := by omega
    rw [h1, up_inj (L := L) (M := M) h.2]
theorem drewN_all (w : World) (a : Nat) : ∃ n, w.drewN a = w.drewN n := ⟨a, rfl⟩
theorem quiet2 {P : Program} {f : FuncId} {args : Array Value} {w : World} {v : Value}
    (h : ∀ n, Calls P f args (w.drewN n) fun e w' => e = .returned v ∧ w.drewN n = w') (n : Nat) : Calls P f args (w.drewN n) fun e w'' => e = .returned v ∧ ∃ m, w'' = w.drewN m :=
  (h n).mono fun _ _ ⟨he, hm⟩ => ⟨he, n, hm.symm⟩

section
variable {K : Keys} {p : Option Addr} {c a b : Nat} {w : World}
end

/-- slices.Equal over numbers -/
theorem ints_step (M N : List Int) (k : Nat) (h1 : k < M.length) (h2 : k < N.length) (hk : M.take k = N.take k) : (M.getD k 0 = N.getD k 0 ↔ M.take (k + 1) = N.take (k + 1)) := by
  have e1 := List.take_succ_eq_append_getElem h1
  have e2 := List.take_succ_eq_append_getElem h2
  have a1 : M.getD k 0 = M[k] := by simp [List.getD_eq_getElem?_getD, List.getElem?_eq_getElem h1]
  have a2 : N.getD k 0 = N[k] := by simp [List.getD_eq_getElem?_getD, List.getElem?_eq_getElem h2]
  rw [e1, e2, a1, a2, hk]
  constructor
  · intro h; rw [h]
  · intro h
    have := List.append_cancel_left h
    simpa using this
end Go.Proofs.Ytjnehpkkkmicfaa.Ls
namespace Go.Proofs.Ytjnehpkkkmicfaa.Ls
open Go.RowKit Rw Nm

theorem info_int : (Try.prog.info? 3).map (fun i => (i.zero, i.size, i.bytes)) = some (some (.int .i64 0), 1, 8) := by kernel_rfl
theorem up_zeros (n : Nat) : (madeCells (Value.int .i64 0).cells (n * 1)).toList = zs (up (List.replicate n 0)) := by
  rw [show (Value.int .i64 0).cells = #[Value.int .i64 0] by simp [Value.cells], Nat.mul_one, toList_madeCells_one]
  simp [zs, up]
/-- a slice of n numbers of the call's own -/
def Nums (w : World) (B g n : Nat) (L : List Nat) : Prop := w.ownsRow B 3 1 (.slice (some ⟨g, 0, none⟩) n n) n (zs (up L))
theorem Nums.len {w : World} {B g n : Nat} {L : List Nat} (h : Nums w B g n L) : L.length = n := by
  have := h.1; rw [zs_length, up_length] at this; omega
theorem Nums.lt {w : World} {B g n : Nat} {L : List Nat} (h : Nums w B g n L) : B ≤ g ∧ g < w.heap.size := by
  rcases h.2 with ⟨h2, _⟩ | ⟨g', cap, cur, hv, hg, hh, _⟩
  · cases h2
  · cases hv; exact ⟨hg, (Array.getElem?_eq_some_iff.1 hh).1⟩
theorem Nums.cell {w : World} {B g n : Nat} {L : List Nat} (h : Nums w B g n L) {k : Nat} (hk : k < n) : w.cell? ⟨g, k, none⟩ = some (.int .i64 (L.getD k 0 : Nat)) := by
  have hl := h.len
  have := h.cells (g := g) rfl k (.int .i64 (L.getD k 0 : Nat)) (by
    have e : (zs (up L))[k]? = some ((zs (up L)).getD k (.bool false)) := by rw [List.getD_eq_getElem?_getD, List.getElem?_eq_getElem (by rw [zs_length, up_length, hl]; exact hk)]; rfl
    rw [e, zs_getD _ _ (by rw [up_length, hl]; exact hk), up_getD _ _ (by rw [hl]; exact hk)])
  simpa [Addr.add_lit] using this
theorem Nums.free {w : World} {B g n : Nat} {L : List Nat} (h : Nums w B g n L) (k : Nat) : w.frozen? ⟨g, k, none⟩ = false := h.frozenAt k
theorem Nums.set {w : World} {B g n : Nat} {L : List Nat} (h : Nums w B g n L) (k v : Nat) : Nums (w.setCell ⟨g, k, none⟩ (.int .i64 (v : Nat))) B g n (L.set k v) := by
  have := (h.stored k (.int .i64 (v : Nat))).1
  rw [zs_set, up_set] at this
  exact this
theorem Nums.other {w : World} {B g n : Nat} {L : List Nat} (h : Nums w B g n L) {a : Addr} (ha : a.block ≠ g) (v : Value) : Nums (w.setCell a v) B g n L :=
  ownsRow_setCell_other h (by simpa [Value.ownBlock] using fun e => ha e.symm) v
theorem Nums.below {w w' : World} {B g n : Nat} {L : List Nat} (h : Nums w B g n L) (hb : Below w.heap.size w w') : Nums w' B g n L := own_below h hb
theorem Nums.rd {w : World} {B g n : Nat} {L : List Nat} (h : Nums w B g n L) : Rd w (some ⟨g, 0, none⟩) (zs (up L)) := Rd.of_own h
theorem getD_set_self {L : List Nat} {k : Nat} (v : Nat) (h : k < L.length) : (L.set k v).getD k 0 = v := by simp [List.getD_eq_getElem?_getD, h]
theorem getD_set_other {L : List Nat} {k j : Nat} (v : Nat) (h : k ≠ j) : (L.set k v).getD j 0 = L.getD j 0 := by simp [List.getD_eq_getElem?_getD, List.getElem?_set_ne h]
theorem ext_getD {L M : List Nat} (hl : L.length = M.length) (h : ∀ i, i < L.length → L.getD i 0 = M.getD i 0) : L = M := by
  apply List.ext_getElem hl
  intro i h1 h2
  have := h i h1
  simpa [List.getD_eq_getElem?_getD, h1, h2] using this

theorem two_new (w : World) {a b : Nat} {A B : Array Value} (ha : A.size = a) (hA : A.toList = zs (up (List.replicate a 0))) (hb : B.size = b) (hB : B.toList = zs (up (List.replicate b 0))) (ma : a ≤ 512) (mb : b ≤ 512) :
    Nums ((w.alloc (.cells A 3)).alloc (.cells B 3)).drew w.heap.size w.heap.size a (List.replicate a 0) ∧ Nums ((w.alloc (.cells A 3)).alloc (.cells B 3)).drew w.heap.size (w.heap.size + 1) b (List.replicate b 0) ∧
      Below w.heap.size w ((w.alloc (.cells A 3)).alloc (.cells B 3)).drew := by
  have b1 : Below w.heap.size w (w.alloc (.cells A 3)) := (Below.refl _ _).alloc (Nat.le_refl _) _
  have b2 : Below (w.alloc (.cells A 3)).heap.size (w.alloc (.cells A 3)) ((w.alloc (.cells A 3)).alloc (.cells B 3)) := (Below.refl _ _).alloc (Nat.le_refl _) _
  have b3 : Below ((w.alloc (.cells A 3)).alloc (.cells B 3)).heap.size ((w.alloc (.cells A 3)).alloc (.cells B 3)) ((w.alloc (.cells A 3)).alloc (.cells B 3)).drew := Below.drew (Below.refl _ _)
  have r1 := World.ownsRow_lit (e := 3) (base := w.heap.size) (size := 1) w A a (Nat.le_refl _) (by unfold maxLen; omega) (by omega)
  have r2 := World.ownsRow_lit (e := 3) (base := w.heap.size) (size := 1) (w.alloc (.cells A 3)) B b (by simp) (by unfold maxLen; omega) (by omega)
  rw [hA] at r1
  rw [hB] at r2
  have e : (w.alloc (.cells A 3)).heap.size = w.heap.size + 1 := by simp
  rw [e] at r2
  exact ⟨own_below (own_below r1 b2) b3, own_below r2 b3, b1.trans ((b2.mono b1.size).trans (b3.mono (Nat.le_trans b1.size b2.size)))⟩
/-- the rows at work -/
def Won (K : Keys) (j : Nat) (W : List Nat) : Prop := ∀ x, j < x → x < 2 * K.length → W.getD x 0 = wn K x
def Lost (K : Keys) (j : Nat) (T : List Nat) : Prop := ∀ x, j < x → x < K.length → T.getD x 0 = lo K x
theorem build_of {K : Keys} {T : List Nat} (hl : T.length = K.length) (h0 : T.getD 0 0 = wn K 1) (h : Lost K 0 T) : T = build K := by
  refine ext_getD (by rw [hl, build_length]) (fun i hi => ?_)
  rw [build_get K i (by omega)]
  by_cases e : i = 0
  · subst e; rw [if_pos rfl]; exact h0
  · rw [if_neg e]; exact h i (by omega) (by omega)

/-- one node is written -/
theorem node_rows {w wr W1 : World} {B gW gT n j v u : Nat} {L T : List Nat} (hne : gW ≠ gT) (hW : Nums wr B gW (2 * n) L) (hT : Nums wr B gT n T) (hB : Below B w wr) (hb : Below wr.heap.size wr W1) (hj : j < n) :
    (W1.cell? ⟨gW, j, none⟩ = some (.int .i64 (L.getD j 0 : Nat)) ∧ W1.frozen? ⟨gW, j, none⟩ = false ∧ W1.cell? ⟨gT, j, none⟩ = some (.int .i64 (T.getD j 0 : Nat)) ∧ W1.frozen? ⟨gT, j, none⟩ = false) ∧
    Nums ((W1.setCell ⟨gW, j, none⟩ (.int .i64 (v : Nat))).setCell ⟨gT, j, none⟩ (.int .i64 (u : Nat))) B gW (2 * n) (L.set j v) ∧
    Nums ((W1.setCell ⟨gW, j, none⟩ (.int .i64 (v : Nat))).setCell ⟨gT, j, none⟩ (.int .i64 (u : Nat))) B gT n (T.set j u) ∧
    Below B w ((W1.setCell ⟨gW, j, none⟩ (.int .i64 (v : Nat))).setCell ⟨gT, j, none⟩ (.int .i64 (u : Nat))) := by
  have h1 := hW.below hb
  have h2 := hT.below hb
  have h3 : Below B w W1 := hB.trans (hb.mono (Nat.le_of_lt (Nat.lt_of_le_of_lt hW.lt.1 hW.lt.2)))
  exact ⟨⟨h1.cell (by omega), h1.free j, h2.cell hj, h2.free j⟩, (h1.set j v).other (a := ⟨gT, j, none⟩) (fun e => hne e.symm) _, (h2.other (a := ⟨gW, j, none⟩) hne _).set j u, below_put (below_put h3 (a := ⟨gW, j, none⟩) h1.lt.1 _) (a := ⟨gT, j, none⟩) h2.lt.1 _⟩
theorem won_step {K : Keys} {j : Nat} {L : List Nat} (h : Won K j L) (hl : j < L.length) : Won K (j - 1) (L.set j (wn K j)) := fun x h1 h2 => by
  by_cases e : x = j
  · subst e; rw [getD_set_self _ hl]
  · rw [getD_set_other _ (fun h => e h.symm)]; exact h x (by omega) h2
theorem lost_step {K : Keys} {j : Nat} {L : List Nat} (h : Lost K j L) (hl : j < L.length) : Lost K (j - 1) (L.set j (lo K j)) := fun x h1 h2 => by
  by_cases e : x = j
  · subst e; rw [getD_set_self _ hl]
  · rw [getD_set_other _ (fun h => e h.symm)]; exact h x (by omega) h2

section
variable {K : Keys} {p : Option Addr} {c : Nat} {w : World}
end
end Go.Proofs.Ytjnehpkkkmicfaa.Ls
namespace Go.Proofs.Ytjnehpkkkmicfaa.Ls
open Go.RowKit Go.Lib Rw Nm

theorem info_u64 : (Try.prog.info? 23).map (fun i => (i.zero, i.size, i.bytes)) = some (some (.int .u64 0), 1, 8) := by kernel_rfl
theorem info_u64s : (Try.prog.info? 25).map (fun i => (i.zero, i.size, i.bytes)) = some (some (.slice none 0 0), 1, 24) := by kernel_rfl
theorem nums_one (L : List Nat) : ∀ u ∈ nums L, u.oneCell' = true := by
  intro u hu
  simp only [nums, List.mem_map] at hu
  obtain ⟨n, _, rfl⟩ := hu
  rfl
theorem zs_one (L : List Int) : ∀ u ∈ zs L, u.oneCell' = true := by
  intro u hu
  simp only [zs, List.mem_map] at hu
  obtain ⟨n, _, rfl⟩ := hu
  rfl
/-- what lies in a block that is new -/
def NewAt (B : Nat) (q : Option Addr) : Prop := ∀ a, q = some a → B ≤ a.block

end Go.Proofs.Ytjnehpkkkmicfaa.Ls
