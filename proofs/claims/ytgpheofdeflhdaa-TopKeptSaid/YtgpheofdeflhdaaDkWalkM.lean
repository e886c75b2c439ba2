/- The walk of insert. -/
import Derived.Test.YtgpheofdeflhdaaDkIns
import Derived.Test.YtgpheofdeflhdaaDkWalkJ
namespace Go.Proofs.Ytgpheofdeflhdaa.Dk
open Go.RowKit Go.Op

theorem eRow_one (E : List Ext) : (eRow E).all (fun u => u.oneCell') = true := by
  rw [List.all_eq_true]
  intro u hu
  simp only [eRow, List.mem_flatMap] at hu
  obtain ⟨x, _, hx⟩ := hu
  simp at hx
  rcases hx with rfl | rfl <;> rfl
/-- with an extent more -/
def insE (E : List Ext) (k : Nat) (x y : ByteArray) : List Ext := E.take k ++ [(x, y)] ++ E.drop k
theorem eRow_split : ∀ (E : List Ext) (k : Nat), (eRow E).take (k * 2) = eRow (E.take k) ∧ (eRow E).drop (k * 2) = eRow (E.drop k)
  | E, 0 => by simp [eRow]
  | [], k + 1 => by simp [eRow]
  | x :: E, k + 1 => by
    have e : eRow (x :: E) = .string x.1 :: .string x.2 :: eRow E := rfl
    have h := eRow_split E k
    rw [e, show (k + 1) * 2 = k * 2 + 1 + 1 by omega]
    simp only [List.take_succ_cons, List.drop_succ_cons]
    rw [h.1, h.2]
    exact ⟨rfl, rfl⟩
theorem eRow_ins (E : List Ext) (k : Nat) (x y : ByteArray) : (eRow E).take (k * 2) ++ [.string x, .string y] ++ (eRow E).drop (k * 2) = eRow (insE E k x y) := by
  unfold insE
  rw [eRow_app, eRow_app, (eRow_split E k).1, (eRow_split E k).2]
  rfl
theorem insE_length (E : List Ext) (k : Nat) (x y : ByteArray) (h : k ≤ E.length) : (insE E k x y).length = E.length + 1 := by
  unfold insE; simp; omega

theorem ins_new (W : World) (B gE n c k : Nat) (E : List Ext) (x y : ByteArray) (hn : n = E.length) (hr : W.ownsRow B 86 2 (.slice (some ⟨gE, 0, none⟩) n c) n (eRow E)) (hroom : n + 1 ≤ c) (hk : k ≤ n) (hc : c ≤ 1000000000) :
    Calls Try.prog 57 #[.slice (some ⟨gE, 0, none⟩) n c, .int .i64 (k : Int), .slice (some ⟨W.heap.size, 0, none⟩) 1 1] (W.alloc (.cells #[.string x, .string y] 86)) (InsP W B gE n c (eRow (insE E k x y))) := by
  have hlt := (hr.lt gE rfl).2
  have hb : Below W.heap.size W (W.alloc (.cells #[.string x, .string y] 86)) := (Below.refl _ _).alloc (Nat.le_refl _) _
  have hr2 := Rw.own_below hr hb
  have hv := Boxed.new W #[.string x, .string y] 86
  have hheap := heap_alloc_new W (.cells #[.string x, .string y] 86)
  by_cases h : k = n
  · subst h
    refine (insEnd_any B gE k c W.heap.size (eRow E) x y _ hr2 hv hroom).mono ?_
    rintro e w' ⟨rfl, h2, h3⟩
    refine ⟨rfl, ?_, (Bar.of_below hb _).trans h3⟩
    have : insE E k x y = E ++ [(x, y)] := by unfold insE; rw [hn]; simp
    rw [this, eRow_app]
    exact h2
  · refine (insMid_any B gE n c W.heap.size k (eRow E) x y _ 86 2 hr2 hv (by omega) hroom (by omega) hc (eRow_one E) (by unfold World.shape?; rw [hheap]; rfl) (by unfold World.frozen?; rw [hheap]; simp)).mono ?_
    rintro e w' ⟨rfl, h2, h3⟩
    refine ⟨rfl, ?_, (Bar.of_below hb _).trans h3⟩
    rw [← eRow_ins]
    exact h2

end Go.Proofs.Ytgpheofdeflhdaa.Dk
