/- slices.Insert of an extent, where there is room. -/
import Derived.Test.YtgpheofdeflhdaaDkWork
import Derived.Shelf.Spec.SlicesInsert
import Derived.Laws.CopyRow
namespace Go.Proofs.Ytgpheofdeflhdaa.Dk
open Go.RowKit Go.Op

theorem run_copy_rowK {P : Program} (w : World) (dT sT ty elem : TypeId) (g o dLen dCap : Nat) (a : Addr) (sLen sCap k : Nat) (cur : Array Value) (t : TypeId) (cs : List Value)
    (hu : P.underlying dT = some (.slice elem)) (hs : (P.info? elem).map (·.size) = some k)
    (hg : w.heap[g]? = some (.cells cur t (0, 0))) (hn : cs.length = Nat.min sLen dLen * k)
    (hsrc : ∀ j v, cs[j]? = some v → w.cell? (a.add j) = some v) (hfit : o + cs.length ≤ cur.size) (h1 : ∀ v ∈ cs, v.oneCell' = true) :
    (Builtin.copy_ #[dT, sT] ty #[.slice (some ⟨g, o, none⟩) dLen dCap, .slice (some a) sLen sCap]).run P w =
      .ok (goInt (Nat.min sLen dLen)) (w.setRow g (cur.toList.take o ++ cs ++ cur.toList.drop (o + cs.length)).toArray) := by
  have hl := run_loadCells_list (P := P) w a cs hsrc
  have hst := run_storeCells_at (P := P) g o t cs 0 cur w hg (by simpa using hfit) h1
  rw [Nat.add_zero] at hst
  cases hq : P.info? elem with
  | none => simp [hq] at hs
  | some i =>
    have hi : i.size = k := by simpa [hq] using hs
    rw [hn] at hl
    simp [Builtin.copy_, run_underlying hu, Builtin.lenOf, Builtin.firstCells, sizeOf, typeInfo, hq, hi, hl, hst]

set_option maxRecDepth 100000 in
theorem overlaps_ext (vb : Nat) (b m vc lb cb : Nat) (oa ob : Nat) (hne : vb ≠ b) (w : World) (tA tB : TypeId) (kA kB : Nat) (hsa : w.shape? vb = some (tA, kA)) (hsb : w.shape? b = some (tB, kB)) (hkB : kB ≠ 0) (hfa : w.frozen? ⟨vb, oa, none⟩ = false) (hfe : w.frozen? ⟨vb, kA, none⟩ = false) :
    (callFunc 59 #[.slice (some ⟨vb, oa, none⟩) m vc, .slice (some ⟨b, ob, none⟩) lb cb]).run Try.prog w = .ok (.value (.bool false)) w := by
  rw [run_callFunc_extern Try.func59 (by kernel_rfl) (by kernel_rfl) (by kernel_rfl) (e := Extern.SlicesOverlaps.overlaps #[29, 29] #[4]) (by kernel_rfl),
    Lib.run_overlaps_apart w 29 4 86 Try.underlying29 2 (fun _ => rfl) ⟨vb, oa, none⟩ ⟨b, ob, none⟩ m vc lb cb hne tA tB kA kB hsa hsb hkB hfa hfe]
  rfl

theorem info_ext2 : (Try.prog.info? 86).map (·.size) = some 2 := by kernel_rfl
def InsP (w : World) (B gE n c : Nat) (ys : List Value) (e : Ending) (w' : World) : Prop := e = .returned (.slice (some ⟨gE, 0, none⟩) (n + 1) c) ∧ w'.ownsRow B 86 2 (.slice (some ⟨gE, 0, none⟩) (n + 1) c) (n + 1) ys ∧ Bar w w' (fun k => k = gE)
theorem boxed_cells {w : World} {vb : Nat} {cs : List Value} (h : Boxed w vb cs) : ∀ j u, cs[j]? = some u → w.cell? ((⟨vb, 0, none⟩ : Addr).add j) = some u := fun j u hj => by
  have hl : j < cs.length := (List.getElem?_eq_some_iff.1 hj).1
  rw [Addr.add_lit, Nat.zero_add, h.cell j hl, List.getD_eq_getElem?_getD, hj]
  rfl

set_option maxHeartbeats 4000000 in
set_option maxRecDepth 100000 in
theorem insEnd_any (B gE n c vb : Nat) (xs : List Value) (x y : ByteArray) (w : World) (hr : w.ownsRow B 86 2 (.slice (some ⟨gE, 0, none⟩) n c) n xs) (hv : Boxed w vb [.string x, .string y]) (hroom : n + 1 ≤ c) :
    Calls Try.prog 57 #[.slice (some ⟨gE, 0, none⟩) n c, .int .i64 (n : Int), .slice (some ⟨vb, 0, none⟩) 1 1] w (InsP w B gE n c (xs ++ [.string x, .string y])) := by
  have hcs := boxed_cells hv
  obtain ⟨i0, hi0, hz1⟩ : ∃ i0, Try.prog.info? 86 = some i0 ∧ i0.size = 2 := by
    have := info_ext2
    cases hq : Try.prog.info? 86 with
    | none => rw [hq] at this; simp at this
    | some i => rw [hq] at this; exact ⟨i, rfl, by simpa using this⟩
  have hcn : ¬ (c = n) := by omega
  have HI := Lib.hid hi0; have HZ := Lib.hid hz1; have HR := Lib.hid hr; have HC := Lib.hid hcs; have HRM := Lib.hid hroom
  clear hi0 hz1 hr hcs hv
  go_enter Try.func57, Try.ntmps57
  go_wp2_with (at_builtin; refine wpList_append_fits _ rfl _ _ 29 rfl B 86 i0 2 Try.underlying29 HI.out HZ.out gE n c xs rfl HR.out ⟨vb, 0, none⟩ 1 1 [.string x, .string y] rfl rfl HC.out (by simp [Value.oneCell']) HRM.out ?_; intro w1 hown hgr)
  go_ret
  exact ⟨rfl, hown, hgr.os, hgr.tape, hgr.output, hgr.size, fun k hk hp => hgr.block k hk (by simpa using hp)⟩

set_option maxHeartbeats 8000000 in
set_option maxRecDepth 100000 in
theorem insMid_any (B gE n c vb i : Nat) (xs : List Value) (x y : ByteArray) (w : World) (tA : TypeId) (kA : Nat) (hr : w.ownsRow B 86 2 (.slice (some ⟨gE, 0, none⟩) n c) n xs) (hv : Boxed w vb [.string x, .string y]) (hne : vb ≠ gE) (hroom : n + 1 ≤ c) (hi : i < n) (hn : c ≤ 1000000000) (h1 : xs.all (fun u => u.oneCell') = true)
    (hsa : w.shape? vb = some (tA, kA)) (hfe : w.frozen? ⟨vb, kA, none⟩ = false) :
    Calls Try.prog 57 #[.slice (some ⟨gE, 0, none⟩) n c, .int .i64 (i : Int), .slice (some ⟨vb, 0, none⟩) 1 1] w (InsP w B gE n c (xs.take (i * 2) ++ [.string x, .string y] ++ xs.drop (i * 2))) := by
  have hl := hr.1
  obtain ⟨_, _, cur, hq, hbg, hg, _, _, hcs, htk⟩ : ∃ g' cap cur, (Value.slice (some ⟨gE, 0, none⟩) n c) = .slice (some ⟨g', 0, none⟩) n cap ∧ B ≤ g' ∧ w.heap[g']? = some (.cells cur 86 (0, 0)) ∧ n ≤ cap ∧ cap ≤ maxLen ∧ cur.size = cap * 2 ∧ cur.toList.take (n * 2) = xs := by
    rcases hr.2 with ⟨h, _⟩ | h
    · cases h
    · exact h
  cases hq
  have hov : ∀ lb cb, (callFunc 59 #[.slice (some ⟨vb, 0, none⟩) 1 1, .slice (some ⟨gE, (i + 1) * 2, none⟩) lb cb]).run Try.prog w = .ok (.value (.bool false)) w := fun lb cb => overlaps_ext vb gE 1 1 lb cb 0 ((i + 1) * 2) hne w tA _ kA _ hsa (by unfold World.shape?; rw [hg]) (by rw [hcs]; omega) (hv.free 0 (by simp)) hfe
  have hw1 : IntKind.i64.wrap ((i : Int) + 1) = (i : Int) + 1 := IntWalk.i64_in _ (by omega)
  have hw2 : IntKind.i64.wrap ((n : Int) + 1) = (n : Int) + 1 := IntWalk.i64_in _ (by omega)
  have hb1 : (0 : Int) ≤ (i : Int) + 1 := by omega
  have hb2 : ¬ (c = i + 1) := by omega
  have hb3 : (i : Int) ≤ (n : Int) + 1 := by omega
  have hb4 : ¬ (c = i) := by omega
  have hb5 : (n : Int) + 1 ≤ (c : Int) := by omega
  have ht1 : ((i : Int) + 1).toNat = i + 1 := by omega
  have ht2 : ((n : Int) + 1).toNat = n + 1 := by omega
  have hb6 : ¬ ((i : Int) = (n : Int)) := by omega
  have hds : (xs.drop (i * 2)).length = (n - i) * 2 := by rw [List.length_drop, hl]; omega
  obtain ⟨cur1, hc1⟩ : ∃ cur1, cur1 = (cur.toList.take ((i + 1) * 2) ++ xs.drop (i * 2) ++ cur.toList.drop ((i + 1) * 2 + (xs.drop (i * 2)).length)).toArray := ⟨_, rfl⟩
  obtain ⟨W1, hW1⟩ : ∃ W1, W1 = w.drew.setRow gE cur1 := ⟨_, rfl⟩
  have hin : i ≤ n := by omega
  have hm1 : Nat.min (n + 1 - i) (n - i) = n - i := by simp only [Nat.min_def]; split <;> omega
  have hm2 : Nat.min 1 (n + 1 - i) = 1 := by simp only [Nat.min_def]; split <;> omega
  have hcp1 : ∀ ty dc sc, (Builtin.copy_ #[29, 29] ty #[.slice (some ⟨gE, (i + 1) * 2, none⟩) (n - i) dc, .slice (some ⟨gE, i * 2, none⟩) (n + 1 - i) sc]).run Try.prog w.drew = .ok (goInt (n - i : Nat)) W1 := fun ty dc sc => by
    have := run_copy_rowK (P := Try.prog) w.drew 29 29 ty 86 gE ((i + 1) * 2) (n - i) dc ⟨gE, i * 2, none⟩ (n + 1 - i) sc 2 cur 86 (xs.drop (i * 2)) Try.underlying29 info_ext2 hg (by rw [hm1, hds])
      (fun j v hj => by
        rw [List.getElem?_drop] at hj
        have := hr.cells (g := gE) rfl (i * 2 + j) v hj
        simp only [Addr.add_lit, Nat.zero_add] at this ⊢
        exact this) (by rw [hds, hcs]; omega) (fun v hv => List.all_eq_true.1 h1 v (List.mem_of_mem_drop hv))
    rw [hm1, ← hc1, ← hW1] at this
    exact this
  have hg1 : W1.heap[gE]? = some (.cells cur1 86 (0, 0)) := by rw [hW1]; exact setRow_heap _ gE cur _ 86 (0, 0) hg
  have hbar1 : Bar w W1 (fun k => k = gE) := by
    rw [hW1]
    exact ⟨rfl, rfl, rfl, by simp, fun k _ hp => setRow_other w.drew gE k cur1 hp⟩
  have hv1 := hv.bar hbar1 hne
  have hz1 : cur1.size = c * 2 := by rw [hc1, hds]; simp [hds, hcs]; omega
  obtain ⟨cur2, hc2⟩ : ∃ cur2, cur2 = (cur1.toList.take (i * 2) ++ [Value.string x, Value.string y] ++ cur1.toList.drop (i * 2 + 2)).toArray := ⟨_, rfl⟩
  have hz2 : cur2.size = c * 2 := by rw [hc2]; simp [hz1]; omega
  have hcp2 : ∀ (W : World), W.heap = W1.heap → ∀ ty dc, (Builtin.copy_ #[29, 29] ty #[.slice (some ⟨gE, i * 2, none⟩) (n + 1 - i) dc, .slice (some ⟨vb, 0, none⟩) 1 1]).run Try.prog W = .ok (goInt 1) (W.setRow gE cur2) := fun W hW ty dc => by
    have := run_copy_rowK (P := Try.prog) W 29 29 ty 86 gE (i * 2) (n + 1 - i) dc ⟨vb, 0, none⟩ 1 1 2 cur1 86 [.string x, .string y] Try.underlying29 info_ext2 (by rw [hW]; exact hg1) (by rw [hm2]; rfl)
      (fun j v hj => by rw [World.cell?_of_block (w := W1) (by rw [hW])]; exact boxed_cells hv1 j v hj) (by rw [hz1]; simp; omega) (by simp [Value.oneCell'])
    rw [hm2] at this
    rw [this, hc2]
    rfl
  have htk2 : cur2.toList.take ((n + 1) * 2) = xs.take (i * 2) ++ [.string x, .string y] ++ xs.drop (i * 2) := by
    have hcl : cur.toList.length = c * 2 := by rw [Array.length_toList]; exact hcs
    have a1 : cur1.toList = cur.toList.take ((i + 1) * 2) ++ (xs.drop (i * 2) ++ cur.toList.drop ((i + 1) * 2 + (xs.drop (i * 2)).length)) := by rw [hc1, List.toList_toArray, List.append_assoc]
    have a2 : cur1.toList.take (i * 2) = xs.take (i * 2) := by
      rw [a1, List.take_append_of_le_length (by rw [List.length_take, hcl]; omega), List.take_take, ← htk, List.take_take]
      congr 1
      omega
    have a3 : cur1.toList.drop (i * 2 + 2) = xs.drop (i * 2) ++ cur.toList.drop ((i + 1) * 2 + (xs.drop (i * 2)).length) := by
      rw [a1, List.drop_append_of_le_length (by rw [List.length_take, hcl]; omega), List.drop_eq_nil_of_le (by rw [List.length_take, hcl]; omega), List.nil_append]
    rw [hc2, List.toList_toArray, a2, a3, ← List.append_assoc]
    refine (List.take_append_of_le_length ?_).trans (List.take_of_length_le ?_)
    · simp only [List.length_append, List.length_take, hds, hl, List.length_cons, List.length_nil]; omega
    · simp only [List.length_append, List.length_take, hds, hl, List.length_cons, List.length_nil]; omega
  have hfin : ∀ W : World, W.heap = W1.heap → W.os = W1.os → W.tape = W1.tape → W.output = W1.output → InsP w B gE n c (xs.take (i * 2) ++ [.string x, .string y] ++ xs.drop (i * 2)) (.returned (.slice (some ⟨gE, 0, none⟩) (n + 1) c)) (W.setRow gE cur2) := fun W e1 e2 e3 e4 =>
    ⟨rfl, ⟨by simp [hl]; omega, .inr ⟨gE, c, cur2, rfl, hbg, setRow_heap W gE cur1 _ 86 (0, 0) (by rw [e1]; exact hg1), hroom, by assumption, hz2, htk2⟩⟩, hbar1.trans ⟨e2, e3, e4, by simp [e1], fun k _ hp => by rw [setRow_other W gE k cur2 hp, e1]⟩⟩
  have hcp3 := hcp2 W1 rfl
  have hcp4 := hcp2 W1.drew rfl
  have HFIN := Lib.hid hfin
  clear hsa hfe hl hr hg htk hds hc1 hW1 hcp2 hg1 hbar1 hv1 hz1 hc2 hz2 htk2 hfin hm1 hm2 hv h1 hcs
  go_enter Try.func57, Try.ntmps57
  go_wp2_with (simp only [hov])
  go_region
  go_wp2
  go_ret
  first
    | exact HFIN.out _ rfl rfl rfl rfl
    | (have := HFIN.out W1 rfl rfl rfl rfl; simpa using this)
end Go.Proofs.Ytgpheofdeflhdaa.Dk
