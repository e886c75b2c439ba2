/- The walk of slices.Delete of one extent. -/
import Derived.Test.YtejmbbhbimgheaaDkDel
namespace Go.Proofs.Ytejmbbhbimgheaa.Dk
open Go.RowKit Go.Op

/-- an append whose run is known: at a step of a region that draws its order -/
theorem step_app {P : Program} {ops : Array Oper} {o : Oper} {a : Act} {K : Act → World → Prop} {Q : Exit → Act → World → Prop} {E : Prop} {W : World} (hgd : o.guard = none) (s x : Operand) (t : TypeId)
    (ho : o.op = .call { callee := .builtin .append, args := #[s, x], argTypes := #[t, t] }) {v1 v2 v3 : Value} {w' : World} {ty : TypeId} (hty : o.type = ty) (hs : a.eval s = v1) (hx : a.eval x = v2)
    (hrun : (Builtin.append_ #[t, t] ty #[v1, v2]).run P W = .ok v3 w') (hK : K (a.put o.dst v3) w') :
    if Region.wanted o (yielded ops a.tmps) = true then Oper.wp P o a W K Q else E := by
  have hw : Region.wanted o (yielded ops a.tmps) = true := by simp [Region.wanted, hgd]
  rw [if_pos hw]
  unfold Oper.wp
  simp [execOp, ho, resolve, invoke, builtin, hs, hx, hty, hrun, Result.andThen]
  exact hK

def DelOneP (w : World) (B gE n c : Nat) (ys : List Value) (e : Ending) (w' : World) : Prop := e = .returned (.slice (some ⟨gE, 0, none⟩) n c) ∧ w'.ownsRow B 58 2 (.slice (some ⟨gE, 0, none⟩) n c) n ys ∧ Bar w w' (fun k => k = gE)

set_option maxHeartbeats 4000000 in
set_option maxRecDepth 100000 in
theorem deleteOne_any (B gE n c i : Nat) (xs : List Value) (w : World) (hr : w.ownsRow B 58 2 (.slice (some ⟨gE, 0, none⟩) (n + 1) c) (n + 1) xs) (h1 : xs.all (fun u => u.oneCell') = true) (hi : i ≤ n) (hcn : n + 2 ≤ c) :
    Calls Try.prog 67 #[.slice (some ⟨gE, 0, none⟩) (n + 1) c, .int .i64 (i : Int), .int .i64 ((i : Int) + 1)] w (DelOneP w B gE n c (xs.take (i * 2) ++ xs.drop ((i + 1) * 2))) := by
  have hl := hr.1
  obtain ⟨i0, hi0, hz1⟩ : ∃ i0, Try.prog.info? 58 = some i0 ∧ i0.size = 2 := by
    have := info_ext2
    cases hq : Try.prog.info? 58 with
    | none => rw [hq] at this; simp at this
    | some i => rw [hq] at this; exact ⟨i, rfl, by simpa using this⟩
  have hsh := own_short hr i (by omega)
  obtain ⟨news, hnews⟩ : ∃ news, news = xs.drop ((i + 1) * 2) := ⟨_, rfl⟩
  have hnl : news.length = (n - i) * 2 := by rw [hnews, List.length_drop, hl]; omega
  have hnc : ∀ j u, news[j]? = some u → w.cell? ((⟨gE, (i + 1) * 2, none⟩ : Addr).add j) = some u := fun j u hj => by
    rw [hnews, List.getElem?_drop] at hj
    have := hr.cells (g := gE) rfl ((i + 1) * 2 + j) u hj
    simp only [Addr.add_lit, Nat.zero_add] at this ⊢
    exact this
  have hn1 : ∀ u ∈ news, u.oneCell' = true := fun u hu => List.all_eq_true.1 h1 u (by rw [hnews] at hu; exact List.mem_of_mem_drop hu)
  have F : Hid (∀ w1, w1.ownsRow B 58 2 (.slice (some ⟨gE, 0, none⟩) n c) n (xs.take (i * 2) ++ news) → w.grownBy w1 (some gE) →
      ∃ cur2 : Array Value, (∀ ty, (Builtin.clear_ #[22] ty #[.slice (some ⟨gE, n * 2, none⟩) 1 (c - n)]).run Try.prog w1 = .ok (.tuple #[]) (w1.setRow gE cur2)) ∧
      DelOneP w B gE n c (xs.take (i * 2) ++ news) (.returned (.slice (some ⟨gE, 0, none⟩) n c)) (w1.setRow gE cur2)) := Lib.hid (by
    intro w1 hown hgr
    obtain ⟨cur, hbg, hg, hcm, hcs, htk⟩ : ∃ cur, B ≤ gE ∧ w1.heap[gE]? = some (.cells cur 58 (0, 0)) ∧ c ≤ maxLen ∧ cur.size = c * 2 ∧ cur.toList.take (n * 2) = xs.take (i * 2) ++ news := by
      rcases hown.2 with ⟨h, _⟩ | ⟨g', cap, cur, hv, h1, h2, _, h4, h5, h6⟩
      · cases h
      · cases hv; exact ⟨cur, h1, h2, h4, h5, h6⟩
    obtain ⟨Z, hZ, hcl⟩ := run_clearK (P := Try.prog) w1 22 58 (.agg #[.string ⟨#[]⟩, .string ⟨#[]⟩]) 2 Try.underlying22 (fun _ => rfl) rfl (by simp [Value.cells, Value.oneCell']) gE (n * 2) 1 (c - n) (by omega) cur 58 hg (by rw [hcs]; omega)
    refine ⟨_, hcl, rfl, ⟨hown.1, .inr ⟨gE, c, _, rfl, hbg, setRow_heap w1 gE cur _ 58 (0, 0) hg, by omega, hcm, ?_, ?_⟩⟩, ?_⟩
    · simp [hcs, hZ]; omega
    · rw [List.toList_toArray, List.append_assoc, List.take_append_of_le_length (by rw [List.length_take, Array.length_toList, hcs]; omega), List.take_take, Nat.min_self]
      exact htk
    · exact ⟨hgr.os, hgr.tape, hgr.output, by simp; exact hgr.size, fun k hk hp => by rw [setRow_other w1 gE k _ hp]; exact hgr.block k hk (by simpa using hp)⟩)
  obtain ⟨w1, hrun, hown, hgr⟩ := run_append_fits (P := Try.prog) w.drew B 22 22 58 i0 2 Try.underlying22 hi0 hz1 gE i c (xs.take (i * 2)) hsh ⟨gE, (i + 1) * 2, none⟩ (n - i) (c - (i + 1)) news hnl hnc hn1 (by omega)
  have e7 : i + (n - i) = n := by omega
  rw [e7] at hrun hown
  have e6 : n + 1 - (i + 1) = n - i := by omega
  have hrun2 := hrun
  rw [← e6] at hrun2
  obtain ⟨cur2, hcl, hP⟩ := F.out w1 hown ⟨hgr.os, hgr.tape, hgr.output, hgr.size, hgr.block⟩
  have HP := Lib.hid hP
  have e1 : ¬ (c = i + 1) := by omega
  have e2 : ((i : Int) + 1).toNat = i + 1 := by omega
  have e3 : (i : Int) ≤ (i : Int) + 1 := by omega
  have e4 : (i : Int) + 1 ≤ (n : Int) + 1 := by omega
  have e5 : ((i : Int) == (i : Int) + 1) = false := by rw [beq_eq_false_iff_ne]; omega
  have e8 : n + 1 - n = 1 := by omega
  have e9 : ¬ (c = n) := by omega
  have e10 : i ≤ c := by omega
  have e13 : (i : Int) + 1 ≤ (c : Int) := by omega
  have e14 : (0 : Int) ≤ (i : Int) + 1 := by omega
  have e15 : n + 1 ≤ c := by omega
  rw [← hnews]
  clear hi0 hz1 hr hl h1 hsh hnc hn1 hnl hnews F hown hgr hP e7
  go_enter Try.func67, Try.ntmps67
  go_wp2_with fail
  go_region_law (first
    | (refine step_app (by rfl) _ _ _ (by rfl) (by rfl) (by rfl) (by rfl) hrun ?_)
    | fail)
  go_wp2_with fail
  go_ret
  exact HP.out
end Go.Proofs.Ytejmbbhbimgheaa.Dk
