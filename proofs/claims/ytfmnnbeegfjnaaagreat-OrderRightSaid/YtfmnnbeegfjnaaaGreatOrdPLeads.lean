/- The walk of order's leads. -/
import Derived.Test.YtfmnnbeegfjnaaaGreatOrdPTxtM
import Derived.Test.YtfmnnbeegfjnaaaGreatOrdCol
import Derived.Laws.CopyRow
import Derived.BigQuiet
namespace Go.Proofs.YtfmnnbeegfjnaaaGreat.Od
open Go.RowKit Go.Lib Rw Ls _root_.Go.Proofs.YtfmnnbeegfjnaaaGreat.Nm

set_option maxRecDepth 100000 in
theorem zc_list : (Tryz.zeroCells99).toList = zs (up (List.replicate 256 0)) := by kernel_rfl
theorem zc_store (w : World) : (storeCells ⟨w.heap.size, 0, none⟩ (Tryz.zeroCells99).toList).run Tryz.prog (w.alloc (.cells Tryz.zeroCells99 99)) = .ok () (w.alloc (.cells Tryz.zeroCells99 99)) := by
  have hg := heap_alloc_new w (.cells Tryz.zeroCells99 99)
  have h := run_storeCells_at (P := Tryz.prog) w.heap.size 0 99 (Tryz.zeroCells99).toList 0 Tryz.zeroCells99 _ hg (by simp) (by rw [zc_list]; intro v hv; simp only [zs, List.mem_map] at hv; obtain ⟨z, _, rfl⟩ := hv; rfl)
  rw [h]
  congr 1
  have e : (Tryz.zeroCells99.toList.take (0 + 0) ++ Tryz.zeroCells99.toList ++ Tryz.zeroCells99.toList.drop (0 + 0 + Tryz.zeroCells99.toList.length)).toArray = Tryz.zeroCells99 := by
    rw [Nat.add_zero, List.take_zero, List.nil_append, Nat.zero_add, List.drop_length, List.append_nil, Array.toArray_toList]
  rw [e]
  exact setRow_self _ _ _ _ _ hg
/-- how many rows begin with each byte -/
def cnt (c : List Nat) (i : Nat) : List Nat := (List.range 256).map fun v => (c.take i).count v
theorem cnt_length (c : List Nat) (i : Nat) : (cnt c i).length = 256 := by simp [cnt]
theorem cnt_at (c : List Nat) (i : Nat) {v : Nat} (hv : v < 256) : (cnt c i).getD v 0 = (c.take i).count v := by simp [cnt, List.getD_eq_getElem?_getD, hv]
theorem cnt_succ (c : List Nat) {i : Nat} (hi : i < c.length) : cnt c (i + 1) = (cnt c i).set (c.getD i 0) ((c.take i).count (c.getD i 0) + 1) := by
  have hg : c.getD i 0 = c[i] := gd hi
  obtain ⟨x, hx⟩ : ∃ x, x = c.getD i 0 := ⟨_, rfl⟩
  rw [← hx] at hg ⊢
  apply List.ext_getElem (by simp [cnt_length])
  intro v h1 h2
  rw [List.getElem_set]
  simp only [cnt, List.getElem_map, List.getElem_range]
  rw [List.take_succ_eq_append_getElem hi, List.count_append]
  rw [← hg]
  by_cases e : x = v
  · rw [if_pos e, e]; simp
  · rw [if_neg e]; simp [e]
/-- the first rows of so many bytes, then the counts of the others -/
def los (c : List Nat) (u : Nat) : List Nat := (List.range 256).map fun v => if v < u then lo c v else c.count v
theorem los_zero (c : List Nat) : los c 0 = cnt c c.length := by simp [los, cnt]
theorem los_length (c : List Nat) (u : Nat) : (los c u).length = 256 := by simp [los]
theorem los_succ (c : List Nat) {u : Nat} (_hu : u < 256) : los c (u + 1) = (los c u).set u (lo c u) := by
  apply List.ext_getElem (by simp [los_length])
  intro v h1 h2
  rw [List.getElem_set]
  simp only [los, List.getElem_map, List.getElem_range]
  by_cases e : u = v
  · rw [if_pos e, if_pos (by omega), e]
  · rw [if_neg e]
    by_cases h : v < u
    · rw [if_pos h, if_pos (by omega)]
    · rw [if_neg h, if_neg (by omega)]
/-- what is next for each byte, when so many of the column's bytes are done -/
def nxs (c : List Nat) (i : Nat) : List Nat := (List.range 256).map fun v => lo c v + (c.take i).count v
theorem nxs_zero (c : List Nat) : nxs c 0 = los c 256 := by
  unfold nxs los
  apply List.map_congr_left
  intro v hv
  rw [if_pos (List.mem_range.1 hv)]; simp
theorem nxs_length (c : List Nat) (i : Nat) : (nxs c i).length = 256 := by simp [nxs]
theorem nxs_at (c : List Nat) (i : Nat) {v : Nat} (hv : v < 256) : (nxs c i).getD v 0 = lo c v + (c.take i).count v := by simp [nxs, List.getD_eq_getElem?_getD, hv]
theorem nxs_succ (c : List Nat) {i : Nat} (hi : i < c.length) : nxs c (i + 1) = (nxs c i).set (c.getD i 0) (lo c (c.getD i 0) + (c.take i).count (c.getD i 0) + 1) := by
  have hg : c.getD i 0 = c[i] := gd hi
  obtain ⟨x, hx⟩ : ∃ x, x = c.getD i 0 := ⟨_, rfl⟩
  rw [← hx] at hg ⊢
  apply List.ext_getElem (by simp [nxs_length])
  intro v h1 h2
  rw [List.getElem_set]
  simp only [nxs, List.getElem_map, List.getElem_range]
  rw [List.take_succ_eq_append_getElem hi, List.count_append]
  rw [← hg]
  by_cases e : x = v
  · rw [if_pos e, e]; simp; omega
  · rw [if_neg e]; simp [e]
theorem lo_le (c : List Nat) (v : Nat) : lo c v ≤ 1 + c.length := by unfold lo; have := List.countP_le_length (p := fun x => decide (x < v)) (l := c); omega
theorem gdz {L : List Int} {k : Nat} (h : k < L.length) : L.getD k 0 = L[k] := by simp [List.getD_eq_getElem?_getD, h]
theorem tos_no {c : List Nat} {p : Nat} (h : p ≤ c.length) : (tos c p).getD p 0 = -1 := by
  unfold tos
  rw [List.getD_eq_getElem?_getD, List.getElem?_map, List.getElem?_range (by omega)]
  simp
theorem arr_under {w w' : World} {B C : Nat} {e : TypeId} {g n : Nat} {xs : List Value} (h : Arr w B e g n xs) (hb : Below C w w') (hg : g < C) : Arr w' B e g n xs := by
  refine ⟨h.1, ?_⟩
  rcases h.2 with ⟨h, _⟩ | ⟨g', cap, cur, e, hb', hg', r⟩
  · cases h
  · cases e
    exact .inr ⟨g, n, cur, rfl, hb', (hb.block g hg).trans hg', r⟩
theorem run_index_arr (w : World) (V : Array Value) (u m : Nat) (hV : V[u]? = some (.int .i64 (m : Int))) (hu : u < 256) :
    (Instr.index 99 (.agg V) (.int .i64 (u : Int))).run Tryz.prog w = .ok (.int .i64 (m : Int)) w := by
  simp [Instr.index, run_underlying Tryz.underlying99, asIntOf, go_sem, hu, hV]
set_option maxHeartbeats 8000000 in
set_option maxRecDepth 100000 in
theorem leads_any (c : List Nat) (p n cap : Nat) (q : Option Addr) (w : World) (hn : n = c.length) (hl : n ≤ 4096) (hp : p ≤ n) (hc : ∀ x ∈ c, x < 256) (hr : Rd w q (u8s (rowB c p))) :
    Calls Tryz.prog 38 #[.slice q (n + 1) cap, .int .i64 p] w fun e w' => ∃ (g k : Nat), e = .returned (.slice (some ⟨g, 0, none⟩) (n + 1) k) ∧ w.heap.size ≤ g ∧ Rd w' (some ⟨g, 0, none⟩) (zs (tos c p)) ∧ Below w.heap.size w w' := by
  obtain ⟨i0, hi0, hz0, hz1, hz2⟩ := info_parts info_int
  have HST := Lib.hid (zc_store w)
  have A0 : Hid (Arr (w.alloc (.cells Tryz.zeroCells99 99)) w.heap.size 99 w.heap.size 256 (zs (up (cnt c 0)))) := Lib.hid (by
    have e : cnt c 0 = List.replicate 256 0 := by simp [cnt]; rfl
    rw [e, ← zc_list]
    exact World.ownsRow_lit w _ 256 (Nat.le_refl _) (by decide) (by rw [← Array.length_toList, zc_list]; rfl))
  have B0 : Hid (Below w.heap.size w (w.alloc (.cells Tryz.zeroCells99 99))) := Lib.hid ((Below.refl _ w).alloc (Nat.le_refl _) _)
  have h0 := HST.out
  have HN := Lib.hid hn; have HR := Lib.hid hr; have HX := Lib.hid hc
  clear hn hr hc
  go_enter Tryz.func38, Tryz.ntmps38
  go_wp2_with fail
  clear h0
  generalize (w.alloc (.cells Tryz.zeroCells99 99)) = w1 at A0 B0 ⊢
  clear HST
  obtain ⟨g, hg⟩ : ∃ g, g = w.heap.size := ⟨_, rfl⟩
  rw [← hg] at A0 B0 ⊢
  have HG := Lib.hid hg
  clear hg
  have R1 : Hid (∀ wr, Below g w wr → ∀ k, k < n + 1 → ∃ a : Addr, q = some a ∧ wr.cell? (a.add k) = some (.int .u8 ((rowB c p).getD k 0 : Nat))) := Lib.hid (fun wr hb k hk => by
    have hk2 : k < (u8s (rowB c p)).length := by rw [u8s_length, rowB_length (by rw [← HN.out]; exact hp), ← HN.out]; exact hk
    obtain ⟨a, e, _, h⟩ := (HR.out.below (by rw [← HG.out]; exact hb)) k hk2
    rw [u8s_length] at hk2
    refine ⟨a, e, ?_⟩
    rw [h]
    simp [u8s, List.getD_eq_getElem?_getD, hk2])
  have BY : Hid (∀ k, k < n + 1 → k ≠ p → (rowB c p).getD k 0 = c.getD (ix p k) 0 ∧ ix p k < c.length ∧ c.getD (ix p k) 0 < 256) := Lib.hid (fun k hk hne => by
    have h1 : ix p k < c.length := by rw [ix_at]; exact atOf_lt (by rw [← HN.out]; exact hp) (by rw [← HN.out]; omega) hne
    exact ⟨rowB_at (by rw [← HN.out]; exact hp) (by rw [← HN.out]; omega) hne, h1, by rw [gd h1]; exact HX.out _ (List.getElem_mem h1)⟩)
  go_loopw [17] (fun i wr => ∃ k : Nat, k ≤ n + 1 ∧ i = .int .i64 k ∧ Hid (Arr wr g 99 g 256 (zs (up (cnt c (ix p k))))) ∧ Hid (Below g w wr)) (fun i _ => n + 1 - (intOf i).toNat)
  case atStart => exact ⟨0, by omega, rfl, by have : ix p 0 = 0 := (by unfold ix; rw [if_neg (by omega)]); rw [this]; exact A0, B0⟩
  case round =>
    clear A0 B0
    obtain ⟨k, hk, rfl, HA, HB⟩ := hrel
    by_cases hlt : k < n + 1
    · obtain ⟨a, rfl, cx⟩ := R1.out wr HB.out k hlt
      have k1 : (k : Int) < (n : Int) + 1 := by omega
      have k0 : (0 : Int) ≤ (k : Int) := by omega
      by_cases hkp : k = p
      · subst hkp
        have e1 : Hid (ix k (k + 1) = ix k k) := Lib.hid (ix_same k)
        go_wp2_with fail
        go_roundw
        case rel => exact ⟨k + 1, by omega, by first | rfl | go_num, by rw [e1.out]; exact HA, HB⟩
        case measure => simp [intOf]; omega
      · obtain ⟨b1, b2, b3⟩ := BY.out k hlt hkp
        rw [b1] at cx
        have hs := cnt_succ c b2
        obtain ⟨i, hi⟩ : ∃ i, i = ix p k := ⟨_, rfl⟩
        have e1 : ix p (k + 1) = i + 1 := by rw [hi, ix_succ hkp]
        rw [← hi] at b2 b3 hs cx HA
        obtain ⟨v, hv⟩ : ∃ v, v = c.getD i 0 := ⟨_, rfl⟩
        rw [← hv] at b3 hs cx
        have cg := HA.out.cell b3
        have fg := HA.out.free v
        rw [zs_getD _ _ (by rw [up_length, cnt_length]; exact b3), up_getD _ _ (by rw [cnt_length]; exact b3), cnt_at c i b3] at cg
        obtain ⟨m, hm⟩ : ∃ m, m = (c.take i).count v := ⟨_, rfl⟩
        rw [← hm] at cg hs
        have hml : m ≤ n := by rw [hm, HN.out]; exact Nat.le_trans List.count_le_length (by rw [List.length_take]; exact Nat.min_le_right _ _)
        have S1 := HA.out.set v (.int .i64 ((m + 1 : Nat) : Int))
        rw [zs_set, up_set, ← hs, ← e1] at S1
        have S2 := below_put HB.out (a := ⟨g, v, none⟩) (Nat.le_refl _) (.int .i64 ((m + 1 : Nat) : Int))
        have P1 := Lib.hid S1; have P2 := Lib.hid S2
        have v1 : (v : Int) < 256 := by omega
        have mw : IntKind.i64.wrap ((m : Int) + 1) = (m : Int) + 1 := IntWalk.i64_in _ (by omega)
        have mz : (m : Int) + 1 = ((m + 1 : Nat) : Int) := by omega
        obtain ⟨m1, hm1⟩ : ∃ m1, m1 = m + 1 := ⟨_, rfl⟩
        rw [← hm1] at P1 P2 mz
        have tk : ((k : Int) != (p : Int)) = true := by simp; omega
        clear S1 S2 hi hv hm hs b1 b2 e1 hm1
        go_wp2_with fail
        go_roundw
        case rel => exact ⟨k + 1, by omega, by first | rfl | go_num, P1, P2⟩
        case measure => simp [intOf]; omega
    · obtain rfl : k = n + 1 := by omega
      have e1 : ix p (n + 1) = c.length := by rw [← HN.out]; unfold ix; rw [if_pos (by omega)]; omega
      rw [e1, ← los_zero] at HA
      have hz : (zs (up (los c 0))).length = 256 := by rw [zs_length, up_length, los_length]
      have hblk : wr.heap[g]? = some (.cells (zs (up (los c 0))).toArray 99 (0, 0)) := by
        rcases HA.out.2 with ⟨h, _⟩ | ⟨g', cap', cur, h, _, hg2, _, _, hsz, htk⟩
        · cases h
        · cases h
          have : cur = (zs (up (los c 0))).toArray := by
            rw [List.take_of_length_le (by rw [Array.length_toList, hsz]; exact Nat.le_refl _)] at htk
            rw [← htk, Array.toArray_toList]
          rw [← this]; exact hg2
      obtain ⟨V, hV⟩ : ∃ V, V = (zs (up (los c 0))).toArray := ⟨_, rfl⟩
      rw [← hV] at hblk
      have VA : Hid (∀ u, u < 256 → V[u]? = some (.int .i64 (c.count u : Nat))) := Lib.hid (fun u hu => by
        rw [hV, los_zero]
        simp [zs, up, cnt, hu])
      have VS : V.size = 256 := by rw [hV]; simpa using hz
      have A1 : Hid (Arr wr g 99 g 256 (zs (up (los c 0)))) := HA
      have B1 := HB
      have k1 : ¬ ((n : Int) + 1 < (n : Int) + 1) := by omega
      clear hV hz e1 HA HB
      have hiV : (Tryz.prog.info? 99).map (·.size) = some V.size := by rw [VS]; kernel_rfl
      go_wp2_with (refine wpList_load_row rfl 99 (.tmp 5) rfl g rfl 99 V (0, 0) _ hblk Tryz.underlying99 rfl hiV ?_)
      have HVS := Lib.hid VS
      clear hblk hiV VS k1
      go_loopw [8, 32] (fun f i wr => ∃ u : Nat, u ≤ 256 ∧ i = .int .i64 u ∧ f = .int .i64 (lo c u : Nat) ∧ Hid (Arr wr g 99 g 256 (zs (up (los c u)))) ∧ Hid (Below g w wr)) (fun _ i _ => 256 - (intOf i).toNat)
      case atStart => exact ⟨0, by omega, rfl, by rw [lo_zero]; rfl, A1, B1⟩
      case round =>
        clear A1 B1
        obtain ⟨u, hu, rfl, rfl, HA, HB⟩ := hrel
        by_cases hlt : u < 256
        · have u0 : (0 : Int) ≤ (u : Int) := by omega
          have u1 : (u : Int) < 256 := by omega
          have vu := VA.out u hlt
          have cg := HA.out.cell hlt
          have fg := HA.out.free u
          have hs := los_succ c hlt
          have hlo := lo_succ c u
          have hl1 := lo_le c (u + 1)
          rw [← HN.out] at hl1
          obtain ⟨f, hf⟩ : ∃ f, f = lo c u := ⟨_, rfl⟩
          obtain ⟨f2, hf2⟩ : ∃ f2, f2 = lo c (u + 1) := ⟨_, rfl⟩
          obtain ⟨m, hm⟩ : ∃ m, m = c.count u := ⟨_, rfl⟩
          rw [← hf, ← hm, ← hf2] at hlo
          rw [← hm] at vu
          have hix := fun W => run_index_arr W V u m vu hlt
          rw [← hf] at hs
          rw [← hf2] at hl1
          rw [← hf]
          have S1 := HA.out.set u (.int .i64 (f : Nat))
          rw [zs_set, up_set, ← hs] at S1
          have S2 := below_put HB.out (a := ⟨g, u, none⟩) (Nat.le_refl _) (.int .i64 (f : Nat))
          have P1 := Lib.hid S1; have P2 := Lib.hid S2
          generalize (zs (up (los c u))).getD u (.bool false) = ov at cg
          have fz : (f : Int) + (m : Int) = (f2 : Int) := by omega
          have fw : IntKind.i64.wrap (f2 : Int) = (f2 : Int) := IntWalk.i64_in _ (by omega)
          have HF2 := Lib.hid hf2
          clear S1 S2 hs hlo hf hf2 hm hl1 HA
          go_wp2_with fail
          go_roundw
          case rel => exact ⟨u + 1, by omega, by first | rfl | go_num, by rw [HF2.out], P1, P2⟩
          case measure => simp [intOf]; omega
        · obtain rfl : u = 256 := by omega
          rw [← nxs_zero] at HA
          have gl := HA.out.lt.2
          go_wp2_with (at_make; refine wpList_make_own _ rfl _ _ 23 rfl wr.heap.size 3 i0 (.int .i64 0) 1 Tryz.underlying23 hi0 hz0 hz1 .i64 .i64 ((n : Int) + 1) (n + 1) rfl rfl (by omega) ?c1 ?c2 ?c3 ?_)
          case c1 => rw [hz2]; omega
          case c2 => unfold maxLen; omega
          case c3 => simp
          intro w4 hown4 hgr4
          have b4 : Below wr.heap.size wr w4 := (Below.refl _ wr).grown hgr4 (Nat.le_refl _) (by simp)
          obtain ⟨hB, hhB⟩ : ∃ hB, hB = wr.heap.size := ⟨_, rfl⟩
          have A4 : Hid (Arr w4 g 99 g 256 (zs (up (nxs c (ix p 0))))) := Lib.hid (by have : ix p 0 = 0 := (by unfold ix; rw [if_neg (by omega)]); rw [this]; exact HA.out.below b4)
          rw [← hhB] at hown4 gl ⊢
          have B4 : Hid (Below g w w4) := Lib.hid (HB.out.trans (b4.mono (by omega)))
          have O4 : Hid (w4.ownsRow hB 3 1 (.slice (some ⟨hB, 0, none⟩) 0 (n + 1)) 0 (zs ((tos c p).take 0))) := Lib.hid hown4
          have Z4 : Hid (hB ≤ w4.heap.size) := Lib.hid (by rw [hhB]; exact b4.size)
          clear hown4 hgr4 b4 hhB HA HB HVS VA
          go_wp2_with fail
          go_loopw [11, 48] (fun v i wr => ∃ k : Nat, k ≤ n + 1 ∧ i = .int .i64 k ∧ Hid (wr.ownsRow hB 3 1 v k (zs ((tos c p).take k))) ∧ Hid (Arr wr g 99 g 256 (zs (up (nxs c (ix p k))))) ∧ Hid (Below g w wr) ∧ Hid (hB ≤ wr.heap.size)) (fun _ i _ => n + 1 - (intOf i).toNat)
          case atStart => exact ⟨0, by omega, rfl, O4, A4, B4, Z4⟩
          case round =>
            clear O4 A4 B4 Z4
            obtain ⟨k, hk, rfl, HO, HA, HB, HZ⟩ := hrel
            have hzl := HZ.out
            by_cases hlt : k < n + 1
            · obtain ⟨a, rfl, cx⟩ := R1.out _ HB.out k hlt
              have k1 : (k : Int) < (n : Int) + 1 := by omega
              have k0 : (0 : Int) ≤ (k : Int) := by omega
              have hkt : k < (tos c p).length := by rw [tos_length, ← HN.out]; exact hlt
              have htk : zs ((tos c p).take (k + 1)) = zs ((tos c p).take k) ++ [.int .i64 ((tos c p).getD k 0)] := by
                rw [List.take_succ_eq_append_getElem hkt, gdz hkt]; unfold zs; rw [List.map_append]; rfl
              by_cases hkp : k = p
              · subst hkp
                have e1 : Hid (ix k (k + 1) = ix k k) := Lib.hid (ix_same k)
                have et : (tos c k).getD k 0 = -1 := tos_no (by rw [← HN.out]; omega)
                rw [et] at htk
                have HTK := Lib.hid htk
                clear htk et hkt
                go_wp2_with (at_builtin; refine Rw.push rfl _ _ 23 rfl hB 3 i0 (.int .i64 0) 1 8 Tryz.underlying23 hi0 hz0 hz1 hz2 rfl (by decide) _ _ _ rfl HO.out [.int .i64 (-1)] rfl rfl rfl (by omega) (by omega) hzl ?_)
                intro g4 cap4 w5 hown5 _ _ _ hgr
                have H3 : Hid (w5.ownsRow hB 3 1 (.slice (some ⟨g4, 0, none⟩) (k + 1) cap4) (k + 1) (zs ((tos c k).take (k + 1)))) := Lib.hid (by rw [HTK.out]; exact hown5)
                have H4 : Hid (Arr w5 g 99 g 256 (zs (up (nxs c (ix k (k + 1)))))) := Lib.hid (by rw [e1.out]; exact arr_under HA.out hgr gl)
                have H5 : Hid (Below g w w5) := Lib.hid (HB.out.trans (hgr.mono (by omega)))
                have H6 : Hid (hB ≤ w5.heap.size) := Lib.hid (Nat.le_trans hzl hgr.size)
                clear hown5 hgr
                go_wp2_with fail
                go_roundw
                case rel => exact ⟨k + 1, by omega, by first | rfl | go_num, H3, H4, H5, H6⟩
                case measure => simp [intOf]; omega
              · obtain ⟨b1, b2, b3⟩ := BY.out k hlt hkp
                rw [b1] at cx
                have hs := nxs_succ c b2
                have hnx : (tos c p).getD k 0 = ((lo c (c.getD (ix p k) 0) + (c.take (ix p k)).count (c.getD (ix p k) 0) : Nat) : Int) := by
                  rw [tos_at (by rw [← HN.out]; omega) hkp, nx, ← ix_at, nextRow_count b2]
                rw [hnx] at htk
                have hml := lo_le c (c.getD (ix p k) 0)
                have hml2 : (c.take (ix p k)).count (c.getD (ix p k) 0) ≤ c.length := Nat.le_trans List.count_le_length (by rw [List.length_take]; exact Nat.min_le_right _ _)
                obtain ⟨i, hi⟩ : ∃ i, i = ix p k := ⟨_, rfl⟩
                have e1 : ix p (k + 1) = i + 1 := by rw [hi, ix_succ hkp]
                rw [← hi] at b2 b3 hs cx HA htk hml hml2
                obtain ⟨v, hv⟩ : ∃ v, v = c.getD i 0 := ⟨_, rfl⟩
                rw [← hv] at b3 hs cx htk hml hml2
                have cg := HA.out.cell b3
                have fg := HA.out.free v
                rw [zs_getD _ _ (by rw [up_length, nxs_length]; exact b3), up_getD _ _ (by rw [nxs_length]; exact b3), nxs_at c i b3] at cg
                obtain ⟨m, hm⟩ : ∃ m, m = lo c v + (c.take i).count v := ⟨_, rfl⟩
                rw [← hm] at cg hs htk
                have HM : Hid ((nxs c i).getD v 0 = m) := Lib.hid (by rw [nxs_at c i b3, hm])
                have hmb : m ≤ 10000 := by rw [hm]; have := HN.out; omega
                have HTK := Lib.hid htk
                have HS := Lib.hid hs
                have HE1 := Lib.hid e1
                have v1 : (v : Int) < 256 := by omega
                have mw : IntKind.i64.wrap ((m : Int) + 1) = (m : Int) + 1 := IntWalk.i64_in _ (by omega)
                have tk : ((k : Int) == (p : Int)) = false := by simp; omega
                have tk2 : (k == p) = false := by simpa using hkp
                clear htk hs e1 hnx hml hml2 hi hv hm b1 b2 hkt
                go_wp2_with (at_builtin; refine Rw.push rfl _ _ 23 rfl hB 3 i0 (.int .i64 0) 1 8 Tryz.underlying23 hi0 hz0 hz1 hz2 rfl (by decide) _ _ _ rfl HO.out [.int .i64 (m : Nat)] rfl rfl rfl (by omega) (by omega) hzl ?_)
                intro g4 cap4 w5 hown5 _ _ _ hgr
                have ha5 := arr_under HA.out hgr gl
                have c5 := ha5.cell b3
                have f5 := ha5.free v
                rw [zs_getD _ _ (by rw [up_length, nxs_length]; exact b3), up_getD _ _ (by rw [nxs_length]; exact b3), HM.out] at c5
                have hg4 := (World.ownsRow.lt hown5 g4 rfl).1
                obtain ⟨m1, hm1⟩ : ∃ m1, m1 = m + 1 := ⟨_, rfl⟩
                have mz : (m : Int) + 1 = (m1 : Int) := by omega
                have S1 := ha5.set v (.int .i64 (m1 : Nat))
                rw [zs_set, up_set, hm1, ← HS.out, ← HE1.out, ← hm1] at S1
                have H3 : Hid ((w5.setCell ⟨g, v, none⟩ (.int .i64 (m1 : Nat))).ownsRow hB 3 1 (.slice (some ⟨g4, 0, none⟩) (k + 1) cap4) (k + 1) (zs ((tos c p).take (k + 1)))) := Lib.hid (by
                  rw [HTK.out]; exact ownsRow_setCell_other hown5 (a := ⟨g, v, none⟩) (by simp [Value.ownBlock]; omega) _)
                have H4 := Lib.hid S1
                have H5 : Hid (Below g w (w5.setCell ⟨g, v, none⟩ (.int .i64 (m1 : Nat)))) := Lib.hid (below_put (HB.out.trans (hgr.mono (by omega))) (a := ⟨g, v, none⟩) (Nat.le_refl _) _)
                have H6 : Hid (hB ≤ (w5.setCell ⟨g, v, none⟩ (.int .i64 (m1 : Nat))).heap.size) := Lib.hid (by simp; exact Nat.le_trans hzl hgr.size)
                clear hown5 hgr ha5 S1 hg4 hm1 cg fg
                go_wp2_with fail
                go_roundw
                case rel => exact ⟨k + 1, by omega, by first | rfl | go_num, H3, H4, H5, H6⟩
                case measure => simp [intOf]; omega
            · obtain rfl : k = n + 1 := by omega
              have k1 : ¬ ((n : Int) + 1 < (n : Int) + 1) := by omega
              have hok := HO.out
              rw [List.take_of_length_le (by rw [tos_length, ← HN.out]; exact Nat.le_refl _)] at hok
              obtain ⟨g5, c5, rfl⟩ := own_block hok (by omega)
              have hg5 := (World.ownsRow.lt hok g5 rfl).1
              have F1 : Hid (w.heap.size ≤ g5) := Lib.hid (by rw [← HG.out]; omega)
              have F2 := Lib.hid (Rd.of_own hok)
              have F3 : Hid (Below w.heap.size w wr) := Lib.hid (by rw [← HG.out]; exact HB.out)
              clear hok hg5 HO HA
              go_wp2_with fail
              go_ret
              exact ⟨g5, ⟨_, rfl⟩, F1.out, F2.out, F3.out⟩
end Go.Proofs.YtfmnnbeegfjnaaaGreat.Od
