/- slices.Insert of one byte at a place, where there is room behind the bytes. The bytes of a string as a row that may be written, and one byte laid between them. -/
import Derived.Test.YtfmnnbeegfjnaaaGreatOrdIns
import Derived.Test.YtfmnnbeegfjnaaaGreatOrdCol
import Derived.Shelf.Spec.SlicesInsertGrow
import Derived.ArgAppend
import Derived.Test.YtfmnnbeegfjnaaaGreatOrdPTxtM
import Derived.Lib.ConvBytes
namespace Go.Proofs.YtfmnnbeegfjnaaaGreat.Od
open Go.RowKit Go.Lib Rw Ls _root_.Go.Proofs.YtfmnnbeegfjnaaaGreat.Nm

/-- what is asked of the bytes' row: they lie there, so many cells can be written -/
structure Bt (w : World) (b n c : Nat) (xs : List Value) : Prop where
  len : xs.length = n
  cell : ∀ j v, xs[j]? = some v → w.cell? ⟨b, j, none⟩ = some v
  some : ∀ j, j < c → (w.cell? ⟨b, j, none⟩).isSome = true
  free : ∀ j, j < c → w.frozen? ⟨b, j, none⟩ = false
  one : ∀ v ∈ xs, v.oneCell' = true
  lt : b < w.heap.size
set_option maxHeartbeats 8000000 in
set_option maxRecDepth 100000 in
theorem insB_mid (w : World) (b n c i x vb : Nat) (xs : List Value) (H : Bt w b n c xs) (hi : i < n) (hroom : n + 1 ≤ c) (hc63 : c ≤ 9223372036854775807) (hne : vb ≠ b) (hv : w.heap[vb]? = some (.cells #[.int .u8 (x : Nat)] 5 (0, 0))) (hsb : (w.shape? b).isSome = true) (hnz : ∀ t k, w.shape? b = some (t, k) → k ≠ 0) :
    Calls Tryz.prog 37 #[.slice (some ⟨b, 0, none⟩) n c, .int .i64 (i : Nat), .slice (some ⟨vb, 0, none⟩) 1 1] w fun e w' => e = .returned (.slice (some ⟨b, 0, none⟩) (n + 1) c) ∧ w' = (w.drew.setCells b (i + 1) (xs.drop i)).setCells b i [.int .u8 (x : Nat)] := by
  have hsz : (Tryz.prog.info? 5).map (·.size) = some 1 := by kernel_rfl
  have hvc : w.cell? ⟨vb, 0, none⟩ = some (.int .u8 (x : Nat)) := by simp [World.cell?, hv]
  have hsv : w.shape? vb = some (5, 1) := by simp [World.shape?, hv]
  obtain ⟨⟨tB, kB⟩, hs2⟩ := Option.isSome_iff_exists.1 hsb
  have hov : ∀ lb cb, (callFunc 65 #[.slice (some ⟨vb, 0, none⟩) 1 1, .slice (some ⟨b, i + 1, none⟩) lb cb]).run Tryz.prog w = .ok (.value (.bool false)) w := fun lb cb => by
    rw [run_callFunc_extern Tryz.func65 (by kernel_rfl) (by kernel_rfl) (by kernel_rfl) (e := Extern.SlicesOverlaps.overlaps #[56, 56] #[4]) (by kernel_rfl),
      Lib.run_overlaps_apart w 56 4 5 Tryz.underlying56 1 (fun _ => rfl) ⟨vb, 0, none⟩ ⟨b, i + 1, none⟩ 1 1 lb cb hne 5 tB 1 kB hsv hs2 (hnz _ _ hs2) (by simp [World.frozen?, hv]) (by simp [World.frozen?, hv])]
    rfl
  have hdl : (xs.drop i).length = n - i := by rw [List.length_drop, H.len]
  have hz2 : ¬ ((i : Int) = (n : Int)) := by omega
  have hw1 : IntKind.i64.wrap ((i : Int) + 1) = (i : Int) + 1 := IntWalk.i64_in _ (by omega)
  have hw2 : IntKind.i64.wrap ((n : Int) + 1) = (n : Int) + 1 := IntWalk.i64_in _ (by omega)
  have hb1 : (0 : Int) ≤ (i : Int) + 1 := by omega
  have hb2 : ¬ (c = i + 1) := by omega
  have hb3 : (i : Int) ≤ (n : Int) + 1 := by omega
  have hb4 : ¬ (c = i) := by omega
  have hb5 : (n : Int) + 1 ≤ (c : Int) := by omega
  have ht1 : ((i : Int) + 1).toNat = i + 1 := by omega
  have ht2 : ((n : Int) + 1).toNat = n + 1 := by omega
  have hin : i ≤ n := by omega
  have hcp1 : ∀ ty dc sc, (Builtin.copy_ #[56, 56] ty #[.slice (some ⟨b, i + 1, none⟩) (n - i) dc, .slice (some ⟨b, i, none⟩) (n + 1 - i) sc]).run Tryz.prog w.drew = .ok (goInt (xs.drop i).length) (w.drew.setCells b (i + 1) (xs.drop i)) := fun ty dc sc =>
    run_copy_cells w.drew _ _ ty 5 b (i + 1) (n - i) dc ⟨b, i, none⟩ (n + 1 - i) sc (xs.drop i) Tryz.underlying56 hsz (by rw [hdl]; simp only [Nat.min_def]; split <;> omega)
      (fun j v hj => by rw [Addr.add_lit]; exact H.cell (i + j) v (by rwa [List.getElem?_drop] at hj))
      (fun j hj => H.some _ (by omega)) (fun j hj => H.free _ (by omega)) (fun v hv => H.one v (List.mem_of_mem_drop hv))
  obtain ⟨W1, hW1⟩ : ∃ W1, W1 = w.drew.setCells b (i + 1) (xs.drop i) := ⟨_, rfl⟩
  have hsp1 : ∀ k, k < c → (W1.cell? ⟨b, k, none⟩).isSome = true := fun k hk => by
    rw [hW1]
    exact isSome_setCells b (xs.drop i) (i + 1) w.drew (fun j hj => H.some (i + 1 + j) (by have h2 : j < (xs.drop i).length := hj; omega)) k (H.some k hk)
  have hcp2 : ∀ (W : World), (∀ a, W.cell? a = W1.cell? a) → (∀ a, W.frozen? a = W1.frozen? a) → ∀ ty dc, (Builtin.copy_ #[56, 56] ty #[.slice (some ⟨b, i, none⟩) (n + 1 - i) dc, .slice (some ⟨vb, 0, none⟩) 1 1]).run Tryz.prog W = .ok (goInt 1) (W.setCells b i [.int .u8 (x : Nat)]) := fun W hWc hWf ty dc =>
    run_copy_cells W _ _ ty 5 b i (n + 1 - i) dc ⟨vb, 0, none⟩ 1 1 [.int .u8 (x : Nat)] Tryz.underlying56 hsz (by simp only [Nat.min_def, List.length_cons, List.length_nil]; split <;> omega)
      (fun j v hj => by
        rw [Addr.add_lit, hWc, hW1, World.cell?_setCells_out b _ _ _ _ (fun h _ => absurd h hne)]
        cases j with
        | zero => simp at hj; rw [← hj]; exact hvc
        | succ j => simp at hj)
      (fun j hj => by simp at hj; rw [hWc]; exact hsp1 _ (by omega)) (fun j hj => by simp at hj; rw [hWf, hW1, World.frozen?_setCells]; exact H.free _ (by omega)) (fun v hv => by simp at hv; rw [hv]; rfl)
  rw [← hW1] at hcp1
  have mixed : Tryz.prog.follows Departure.mixedOrders = true := by kernel_rfl
  clear hs2 hnz hsb hvc hsv hv
  go_enter Tryz.func37, Tryz.ntmps37
  go_wp2_with (simp only [hov])
  go_region_law_o (refine step_copy_runI rfl _ _ 56 56 rfl _ _ (by simp [Act.eval, Act.put]) (by simp [Act.eval, Act.put]) (hcp1 _ _ _) ?_)
  go_wp2_with (at_builtin; refine wpList_copy_runI _ rfl _ _ 56 56 rfl _ _ rfl rfl (hcp2 _ (fun _ => rfl) (fun _ => rfl) _ _) ?_)
  go_ret
  first | exact ⟨rfl, rfl⟩ | exact ⟨rfl, by rw [hW1]⟩
theorem one_val {x : Nat} {w : World} {vb : Nat} (h : w.cell? ⟨vb, 0, none⟩ = some (.int .u8 (x : Nat))) : ∀ j v, [Value.int .u8 (x : Nat)][j]? = some v → w.cell? ⟨vb, j, none⟩ = some v := fun j v hj => by
  cases j with
  | zero => simp at hj; rw [← hj]; exact h
  | succ j => simp at hj
set_option maxHeartbeats 8000000 in
set_option maxRecDepth 100000 in
theorem insB_end (w : World) (b n c x vb : Nat) (xs : List Value) (H : Bt w b n c xs) (hroom : n + 1 ≤ c) (_hc63 : c ≤ 9223372036854775807) (hvc : w.cell? ⟨vb, 0, none⟩ = some (.int .u8 (x : Nat))) :
    Calls Tryz.prog 37 #[.slice (some ⟨b, 0, none⟩) n c, .int .i64 (n : Nat), .slice (some ⟨vb, 0, none⟩) 1 1] w fun e w' => e = .returned (.slice (some ⟨b, 0, none⟩) (n + 1) c) ∧ w' = w.setCells b n [.int .u8 (x : Nat)] := by
  obtain ⟨i0, hi0, hz0, hz1, hz2⟩ := info_parts info_u8
  have hb4 : ¬ (c = n) := by omega
  have hrun : ∀ ty, (Builtin.append_ #[56, 56] ty #[.slice (some ⟨b, 0, none⟩) n c, .slice (some ⟨vb, 0, none⟩) 1 1]).run Tryz.prog w = .ok (.slice (some ⟨b, 0, none⟩) (n + 1) c) (w.setCells b n [.int .u8 (x : Nat)]) := fun ty => by
    have h := run_append_room_cells (P := Tryz.prog) (w := w) 56 ty 5 i0 Tryz.underlying56 hi0 b 0 n c ⟨vb, 0, none⟩ 1 1 [.int .u8 (x : Nat)] (by rw [hz1]; rfl) (fun j u hj => by rw [Addr.add_lit, Nat.zero_add]; exact one_val hvc j u hj) (by intro u hu; simp at hu; rw [hu]; rfl) hroom
      (fun j hj => by simp at hj; rw [hz1]; exact H.some _ (by omega)) (fun j hj => by simp at hj; rw [hz1]; exact H.free _ (by omega))
    rw [hz1] at h
    simpa using h
  clear hvc
  go_enter Tryz.func37, Tryz.ntmps37
  go_wp2_with (at_builtin; refine Lib.wpList_append_run _ rfl _ _ _ _ rfl _ _ rfl rfl _ _ (hrun _) ?_)
  go_ret
  exact ⟨rfl, rfl⟩
set_option maxHeartbeats 8000000 in
set_option maxRecDepth 100000 in
theorem insB_endgrow (w : World) (b n x vb : Nat) (xs : List Value) (H : Bt w b n n xs) (hn : n ≤ 1000000000) (hvc : w.cell? ⟨vb, 0, none⟩ = some (.int .u8 (x : Nat))) :
    Calls Tryz.prog 37 #[.slice (some ⟨b, 0, none⟩) n n, .int .i64 (n : Nat), .slice (some ⟨vb, 0, none⟩) 1 1] w fun e w' => ∃ ROW : Array Value, ∃ G, e = .returned (.slice (some ⟨w.heap.size, 0, none⟩) (n + 1) G) ∧ w' = w.drew.alloc (.cells ((xs ++ [Value.int .u8 (x : Nat)]).toArray ++ ROW) 5) := by
  obtain ⟨i0, hi0, hz0, hz1, hz2⟩ := info_parts info_u8
  have hsrc : Src Tryz.prog i0.size 56 (.slice (some ⟨vb, 0, none⟩) 1 1) 1 [.int .u8 (x : Nat)] w := by
    rw [hz1]
    exact Src.ofSlice w Tryz.underlying56 ⟨vb, 0, none⟩ 1 1 [.int .u8 (x : Nat)] (by simp) (fun j u hj => by rw [Addr.add_lit, Nat.zero_add]; exact one_val hvc j u hj) (by intro u hu; simp at hu; rw [hu]; rfl)
  have hold : (Builtin.firstCells i0.size n (.slice (some ⟨b, 0, none⟩) n n)).run Tryz.prog w.drew = .ok xs.toArray w.drew := by
    rw [hz1]
    exact run_firstCells_some w.drew 1 n ⟨b, 0, none⟩ n n xs (by rw [H.len]; omega) (fun j v hj => by rw [Addr.add_lit, Nat.zero_add]; exact H.cell j v hj)
  have hrun : ∀ ty, (Builtin.append_ #[56, 56] ty #[.slice (some ⟨b, 0, none⟩) n n, .slice (some ⟨vb, 0, none⟩) 1 1]).run Tryz.prog w = _ := fun ty =>
    run_append_grow_src w 56 56 ty 5 i0 _ Tryz.underlying56 hi0 hz0 (some ⟨b, 0, none⟩) n n xs hold _ 1 [.int .u8 (x : Nat)] hsrc (by omega) (by omega) (by rw [hz2]; exact growslice_fits (by omega) (by omega))
  clear hvc hsrc hold
  go_enter Tryz.func37, Tryz.ntmps37
  go_wp2_with (at_builtin; refine Lib.wpList_append_run _ rfl _ _ _ _ rfl _ _ rfl rfl _ _ (hrun _) ?_)
  go_ret
  exact ⟨_, _, rfl, rfl⟩
set_option maxHeartbeats 8000000 in
set_option maxRecDepth 100000 in
theorem insB_grow (w : World) (b n i x vb : Nat) (xs : List Value) (H : Bt w b n n xs) (hi : i < n) (hn : n ≤ 1000000000) (hvw : vb < w.heap.size) (hvc : w.cell? ⟨vb, 0, none⟩ = some (.int .u8 (x : Nat))) :
    Calls Tryz.prog 37 #[.slice (some ⟨b, 0, none⟩) n n, .int .i64 (i : Nat), .slice (some ⟨vb, 0, none⟩) 1 1] w fun e w' => ∃ ROW : Array Value, ∃ G, n + 1 ≤ ROW.size ∧ (∀ j, j < i → ROW[j]? = xs[j]?) ∧ e = .returned (.slice (some ⟨w.heap.size, 0, none⟩) (n + 1) G) ∧
      w' = (((w.alloc (.cells ROW 5)).drew.setCells w.heap.size i [Value.int .u8 (x : Nat)]).drew).setCells w.heap.size (i + 1) (xs.drop i) := by
  obtain ⟨i0, hi0, hz0, hz1, hz2⟩ := info_parts info_u8
  have hsz : (Tryz.prog.info? 5).map (·.size) = some 1 := by kernel_rfl
  have mixed : Tryz.prog.follows Departure.mixedOrders = true := by kernel_rfl
  have hne : b ≠ w.heap.size := Nat.ne_of_lt H.lt
  have hdl : (xs.drop i).length = n - i := by rw [List.length_drop, H.len]
  have hkk : (n : Int) + 1 - (i : Int) = ((n + 1 - i : Nat) : Int) := by omega
  have hik : i + (n + 1 - i) = n + 1 := by omega
  have hold : (Builtin.firstCells i0.size i (.slice (some ⟨b, 0, none⟩) i n)).run Tryz.prog w.drew = .ok (xs.take i).toArray w.drew := by
    rw [hz1]
    exact run_firstCells_some w.drew 1 i ⟨b, 0, none⟩ i n (xs.take i) (by rw [List.length_take, H.len]; omega) (fun j v hj => by
      rw [Addr.add_lit, Nat.zero_add]
      rw [List.getElem?_take] at hj
      split at hj
      · exact H.cell j v hj
      · cases hj)
  obtain ⟨G, hG⟩ : ∃ G, G = grownCap w (n + 1) n 5 := ⟨_, rfl⟩
  obtain ⟨ROW, hROW⟩ : ∃ ROW : Array Value, ROW = (xs.take i).toArray ++ Builtin.zeroCells (Value.int .u8 0).cells (n + 1 - i) ++ Builtin.zeroCells (Value.int .u8 0).cells (G - (n + 1)) := ⟨_, rfl⟩
  have hrz : ∀ ty, (Builtin.append_ #[56, 3] ty #[.slice (some ⟨b, 0, none⟩) i n, .int .i64 ((n : Int) + 1 - (i : Int))]).run Tryz.prog w = .ok (.slice (some ⟨w.heap.size, 0, none⟩) (n + 1) G) (w.drew.alloc (.cells ROW 5)) := fun ty => by
    have h := Lib.run_append_grow_zeros (P := Tryz.prog) w 56 3 ty 5 i0 _ .i64 .i64 Tryz.underlying56 Tryz.underlying3 hi0 hz0 (some ⟨b, 0, none⟩) i n (xs.take i) hold (n + 1 - i) (by omega) (by omega) (by omega) (by omega) (by rw [hz2]; omega) (by rw [hz2, hik]; exact growslice_fits (by omega) (by omega))
    rw [hik] at h
    rw [hkk, h, hG, hROW, hG]
  have hRl : n + 1 ≤ ROW.size := by
    rw [hROW]
    first | (simp [Builtin.zeroCells, Value.cells, H.len]; done) | (simp [Builtin.zeroCells, Value.cells, H.len]; omega)
  have hRa : ∀ j, j < i → ROW[j]? = xs[j]? := fun j hj => by
    have hl : (xs.take i).length = i := by rw [List.length_take, H.len]; omega
    rw [hROW, Array.getElem?_append_left (by simp [H.len]; omega), Array.getElem?_append_left (by simp [H.len]; omega)]
    simp [hj]
  have hGn : n + 1 ≤ G := by rw [hG]; exact grownCap_ge w _ _ _
  have hG63 : G ≤ 9223372036854775807 := by
    have := grownCap_le_maxLen w (n + 1) n 5 (by unfold maxLen; omega)
    rw [← hG] at this
    unfold maxLen at this
    omega
  obtain ⟨W1, hW1⟩ : ∃ W1, W1 = w.drew.alloc (.cells ROW 5) := ⟨_, rfl⟩
  have hN : ∀ j, j < n + 1 → (W1.cell? ⟨w.heap.size, j, none⟩).isSome = true := fun j hj => by
    rw [hW1, World.cell?_alloc_at (w := w.drew) ROW _ w.heap.size j rfl]
    exact isSome_at (by omega)
  have hNf : ∀ j, W1.frozen? ⟨w.heap.size, j, none⟩ = false := fun j => by rw [hW1]; exact World.frozen?_alloc_at (w := w.drew) ROW _ w.heap.size j rfl
  have hOb : ∀ j v, w.cell? ⟨b, j, none⟩ = some v → W1.cell? ⟨b, j, none⟩ = some v := fun j v h => by rw [hW1, World.cell?_alloc_past (w := w.drew) _ b j H.lt]; exact h
  have hOv : W1.cell? ⟨vb, 0, none⟩ = some (.int .u8 (x : Nat)) := by rw [hW1, World.cell?_alloc_past (w := w.drew) _ vb 0 hvw]; exact hvc
  have hcpA : ∀ (W : World), (∀ a, W.cell? a = W1.cell? a) → (∀ a, W.frozen? a = W1.frozen? a) → ∀ ty dc, (Builtin.copy_ #[56, 56] ty #[.slice (some ⟨w.heap.size, i, none⟩) (n + 1 - i) dc, .slice (some ⟨vb, 0, none⟩) 1 1]).run Tryz.prog W = .ok (goInt 1) (W.setCells w.heap.size i [.int .u8 (x : Nat)]) := fun W hWc hWf ty dc =>
    run_copy_cells W _ _ ty 5 w.heap.size i (n + 1 - i) dc ⟨vb, 0, none⟩ 1 1 [.int .u8 (x : Nat)] Tryz.underlying56 hsz (by simp only [Nat.min_def, List.length_cons, List.length_nil]; split <;> omega)
      (fun j v hj => by rw [Addr.add_lit, hWc, Nat.zero_add]; exact one_val hOv j v hj)
      (fun j hj => by simp at hj; rw [hWc]; exact hN _ (by omega)) (fun j hj => by rw [hWf]; exact hNf _) (fun v hv => by simp at hv; rw [hv]; rfl)
  have hcpB : ∀ (W : World), (∀ a, W.cell? a = (W1.setCells w.heap.size i [.int .u8 (x : Nat)]).cell? a) → (∀ a, W.frozen? a = (W1.setCells w.heap.size i [.int .u8 (x : Nat)]).frozen? a) → ∀ ty dc sc, (Builtin.copy_ #[56, 56] ty #[.slice (some ⟨w.heap.size, i + 1, none⟩) (n - i) dc, .slice (some ⟨b, i, none⟩) (n - i) sc]).run Tryz.prog W = .ok (goInt (xs.drop i).length) (W.setCells w.heap.size (i + 1) (xs.drop i)) := fun W hWc hWf ty dc sc =>
    run_copy_cells W _ _ ty 5 w.heap.size (i + 1) (n - i) dc ⟨b, i, none⟩ (n - i) sc (xs.drop i) Tryz.underlying56 hsz (by rw [hdl]; simp only [Nat.min_def]; split <;> omega)
      (fun j v hj => by
        rw [Addr.add_lit, hWc, World.cell?_setCells_out _ _ _ _ _ (fun h _ => absurd h hne)]
        exact hOb _ v (H.cell (i + j) v (by rwa [List.getElem?_drop] at hj)))
      (fun j hj => by rw [hWc]; exact isSome_setCells _ _ _ _ (fun t ht => by simp at ht; exact hN _ (by omega)) _ (hN _ (by omega)))
      (fun j hj => by rw [hWf, World.frozen?_setCells]; exact hNf _) (fun v hv => H.one v (List.mem_of_mem_drop hv))
  rw [← hW1] at hrz
  have hz2' : ¬ ((i : Int) = (n : Int)) := by omega
  have hw1 : IntKind.i64.wrap ((i : Int) + 1) = (i : Int) + 1 := IntWalk.i64_in _ (by omega)
  have hw2 : IntKind.i64.wrap ((n : Int) + 1) = (n : Int) + 1 := IntWalk.i64_in _ (by omega)
  have hb1 : (0 : Int) ≤ (i : Int) + 1 := by omega
  have hin : i ≤ n := by omega
  have ht1 : ((i : Int) + 1).toNat = i + 1 := by omega
  have hb3 : (i : Int) ≤ (n : Int) := by omega
  have hGi : ¬ (G = i) := by omega
  have hGim : ¬ (G = i + 1) := by omega
  have hci : ¬ (n = i) := by omega
  subst hW1
  have hE1 : ∀ a, ((w.alloc (.cells ROW 5)).drew).cell? a = (w.drew.alloc (.cells ROW 5)).cell? a := fun _ => rfl
  have hE2 : ∀ a, ((w.alloc (.cells ROW 5)).drew).frozen? a = (w.drew.alloc (.cells ROW 5)).frozen? a := fun _ => rfl
  have hF1 : ∀ a, (((w.alloc (.cells ROW 5)).drew.setCells w.heap.size i [.int .u8 (x : Nat)]).drew).cell? a = ((w.drew.alloc (.cells ROW 5)).setCells w.heap.size i [.int .u8 (x : Nat)]).cell? a := fun _ => rfl
  have hF2 : ∀ a, (((w.alloc (.cells ROW 5)).drew.setCells w.heap.size i [.int .u8 (x : Nat)]).drew).frozen? a = ((w.drew.alloc (.cells ROW 5)).setCells w.heap.size i [.int .u8 (x : Nat)]).frozen? a := fun _ => rfl
  clear hkk hik hold hROW hG hN hNf hOb hOv hvc
  go_enter Tryz.func37, Tryz.ntmps37
  go_wp2_with (first
    | (at_builtin; refine Lib.wpList_append_run _ rfl _ _ _ _ rfl _ _ rfl rfl _ _ (hrz _) ?_)
    | (at_builtin; refine wpList_copy_runI _ rfl _ _ 56 56 rfl _ _ rfl rfl (hcpA _ hE1 hE2 _ _) ?_))
  go_region_law_o (refine step_copy_runI rfl _ _ 56 56 rfl (.slice (some ⟨w.heap.size, i + 1, none⟩) (n - i) (G - (i + 1))) (.slice (some ⟨b, i, none⟩) (n - i) (n - i)) (by simp [Act.eval, Act.put]) (by simp [Act.eval, Act.put]) (hcpB _ hF1 hF2 5 (G - (i + 1)) (n - i)) ?_)
  go_wp2
  go_ret
  exact ⟨ROW, G, hRl, hRa, rfl, rfl⟩
/-- one value between: what lies there, the tail first -/
theorem mid_cells (W : World) (g i n : Nat) (xs : List Value) (v : Value) (hl : xs.length = n) (hi : i ≤ n) (hpre : ∀ j, j < i → W.cell? ⟨g, j, none⟩ = xs[j]?) (hs : ∀ j, j < n + 1 → (W.cell? ⟨g, j, none⟩).isSome = true) (j : Nat) (hj : j < n + 1) :
    ((W.setCells g (i + 1) (xs.drop i)).setCells g i [v]).cell? ⟨g, j, none⟩ = (xs.take i ++ [v] ++ xs.drop i)[j]? := by
  have hdl : (xs.drop i).length = n - i := by rw [List.length_drop, hl]
  have htl : (xs.take i).length = i := by rw [List.length_take, hl]; omega
  have hs2 : ∀ k, k < n + 1 → ((W.setCells g (i + 1) (xs.drop i)).cell? ⟨g, k, none⟩).isSome = true := fun k hk =>
    isSome_setCells g (xs.drop i) (i + 1) W (fun t ht => hs _ (by omega)) k (hs k hk)
  by_cases h1 : j < i
  · rw [World.cell?_setCells_out _ _ _ _ _ (fun _ _ => .inl h1), World.cell?_setCells_out _ _ _ _ _ (fun _ _ => .inl (by show j < i + 1; omega)), hpre j h1, List.append_assoc, List.getElem?_append_left (by rw [htl]; exact h1), List.getElem?_take, if_pos h1]
  · by_cases h2 : j = i
    · subst h2
      have := World.cell?_setCells_in g [v] j (W.setCells g (j + 1) (xs.drop j)) (fun t ht => hs2 _ (by simp at ht; omega)) 0 (by simp)
      rw [show (⟨g, j, none⟩ : Addr) = ⟨g, j + 0, none⟩ from rfl, this, List.append_assoc, List.getElem?_append_right (by rw [htl]; exact Nat.le_refl _), htl]
      simp
    · obtain ⟨d, rfl⟩ : ∃ d, j = i + 1 + d := ⟨j - (i + 1), by omega⟩
      have hd : d < (xs.drop i).length := by rw [hdl]; omega
      rw [World.cell?_setCells_out _ _ _ _ _ (fun _ _ => .inr (by show i + 1 ≤ i + 1 + d; omega))]
      have := World.cell?_setCells_in g (xs.drop i) (i + 1) W (fun t ht => hs _ (by omega)) d hd
      rw [this, List.getElem?_append_right (by rw [List.length_append, htl, List.length_singleton]; omega)]
      simp only [List.length_append, htl, List.length_cons, List.length_nil]
      rw [show i + 1 + d - (i + (0 + 1)) = d by omega, List.getElem?_eq_getElem hd]
end Go.Proofs.YtfmnnbeegfjnaaaGreat.Od
namespace Go.Proofs.YtfmnnbeegfjnaaaGreat.Od
open Go.RowKit Go.Lib Rw Ls _root_.Go.Proofs.YtfmnnbeegfjnaaaGreat.Nm

theorem bytesCells_size (w : World) (e : TypeId) (s : ByteArray) : (Lib.bytesCells w e s).size = grownCap w s.size 0 e := by
  have := grownCap_ge w s.size 0 e
  unfold Lib.bytesCells
  rw [Array.size_append, Array.size_map, Array.size_replicate]
  show s.size + _ = _
  omega
theorem conv_bt (w : World) (s : ByteArray) (hl : s.size ≤ 1000000000) : ∃ (c : Nat) (wb : World), (convert 9 56 (.string s)).run Tryz.prog w = .ok (.slice (some ⟨w.heap.size, 0, none⟩) s.size c) wb ∧ s.size ≤ c ∧ c ≤ maxLen ∧ Bt wb w.heap.size s.size c (u8s (bsN s)) ∧ wb.shape? w.heap.size = some (5, c) ∧ Below w.heap.size w wb := by
  have hge := grownCap_ge w s.size 0 5
  have hle := grownCap_le_maxLen w s.size 0 5 (by unfold maxLen; omega)
  have hsz := bytesCells_size w 5 s
  have hnew := bytesWorld_at_new w 5 s
  refine ⟨_, _, Lib.run_convert_string_bytes (P := Tryz.prog) w 9 56 5 s Tryz.underlying9 Tryz.underlying56 Tryz.underlying5, hge, hle, ⟨by rw [u8s_length, bsN_length], fun j v hj => ?_, fun j hj => ?_, fun j hj => ?_, fun v hv => ?_, by rw [bytesWorld_size]; exact Nat.lt_succ_self _⟩, ?_, ⟨rfl, rfl, rfl, by rw [bytesWorld_size]; omega, fun k hk => bytesWorld_at_old w _ s k hk⟩⟩
  · have h1 : j < s.size := by rw [← bsN_length, ← u8s_length]; exact (List.getElem?_eq_some_iff.1 hj).1
    rw [bytesWorld_cell w 5 s j h1, ← hj]
    have : j < s.data.toList.length := by simpa using h1
    simp [u8s, bsN, List.getD_eq_getElem?_getD, List.getElem?_map, List.getElem?_eq_getElem this]
  · simp only [World.cell?, hnew]
    exact isSome_at (by rw [hsz]; exact hj)
  · simp only [World.frozen?, hnew, hsz]
    simp
    omega
  · simp only [u8s, List.mem_map] at hv
    obtain ⟨z, _, rfl⟩ := hv
    rfl
  · simp only [World.shape?, hnew, hsz]
/-- the same, the value first -/
theorem mid_cells2 (W W2 : World) (g i n : Nat) (xs : List Value) (v : Value) (hl : xs.length = n) (hi : i ≤ n) (hpre : ∀ j, j < i → W.cell? ⟨g, j, none⟩ = xs[j]?) (hs : ∀ j, j < n + 1 → (W.cell? ⟨g, j, none⟩).isSome = true) (hW : ∀ a, W2.cell? a = (W.setCells g i [v]).cell? a) (j : Nat) (hj : j < n + 1) :
    (W2.setCells g (i + 1) (xs.drop i)).cell? ⟨g, j, none⟩ = (xs.take i ++ [v] ++ xs.drop i)[j]? := by
  have hdl : (xs.drop i).length = n - i := by rw [List.length_drop, hl]
  have htl : (xs.take i).length = i := by rw [List.length_take, hl]; omega
  have hs2 : ∀ k, k < n + 1 → (W2.cell? ⟨g, k, none⟩).isSome = true := fun k hk => by
    rw [hW]
    exact isSome_setCells g [v] i W (fun t ht => hs _ (by simp at ht; omega)) k (hs k hk)
  by_cases h1 : j < i
  · rw [World.cell?_setCells_out _ _ _ _ _ (fun _ _ => .inl (by show j < i + 1; omega)), hW, World.cell?_setCells_out _ _ _ _ _ (fun _ _ => .inl h1), hpre j h1, List.append_assoc, List.getElem?_append_left (by rw [htl]; exact h1), List.getElem?_take, if_pos h1]
  · by_cases h2 : j = i
    · subst h2
      rw [World.cell?_setCells_out _ _ _ _ _ (fun _ _ => .inl (by show j < j + 1; omega)), hW]
      have := World.cell?_setCells_in g [v] j W (fun t ht => hs _ (by simp at ht; omega)) 0 (by simp)
      rw [show (⟨g, j, none⟩ : Addr) = ⟨g, j + 0, none⟩ from rfl, this, List.append_assoc, List.getElem?_append_right (by rw [htl]; exact Nat.le_refl _), htl]
      simp
    · obtain ⟨d, rfl⟩ : ∃ d, j = i + 1 + d := ⟨j - (i + 1), by omega⟩
      have hd : d < (xs.drop i).length := by rw [hdl]; omega
      have := World.cell?_setCells_in g (xs.drop i) (i + 1) W2 (fun t ht => hs2 _ (by omega)) d hd
      rw [this, List.getElem?_append_right (by rw [List.length_append, htl, List.length_singleton]; omega)]
      simp only [List.length_append, htl, List.length_cons, List.length_nil]
      rw [show i + 1 + d - (i + (0 + 1)) = d by omega, List.getElem?_eq_getElem hd]
theorem rd_cells {w : World} {g : Nat} {xs : List Value} (hlt : g < w.heap.size) (h : ∀ j, j < xs.length → w.cell? ⟨g, j, none⟩ = xs[j]?) : Rd w (some ⟨g, 0, none⟩) xs := fun i hi => by
  refine ⟨_, rfl, hlt, ?_⟩
  rw [Addr.add_lit, Nat.zero_add, h i hi, List.getD_eq_getElem?_getD, List.getElem?_eq_getElem hi]
  rfl
theorem rowB_u8 (c : List Nat) (p : Nat) : u8s (rowB c p) = (u8s c).take p ++ [Value.int .u8 ((0 : Nat) : Int)] ++ (u8s c).drop p := by
  simp [u8s, rowB, List.map_take, List.map_drop]
/-- one byte laid between a string's bytes -/
theorem insB_any (c : List Nat) (p b n cap vb B : Nat) (w : World) (hn : n = c.length) (hl : n ≤ 4096) (hp : p ≤ n) (H : Bt w b n cap (u8s c)) (hcap : n ≤ cap) (hcm : cap ≤ 9223372036854775807) (hB : B ≤ b) (hBw : B ≤ w.heap.size) (hne : vb ≠ b) (hv : w.heap[vb]? = some (.cells #[.int .u8 ((0 : Nat) : Int)] 5 (0, 0))) (hsb : w.shape? b = some (5, cap)) :
    Calls Tryz.prog 37 #[.slice (some ⟨b, 0, none⟩) n cap, .int .i64 (p : Nat), .slice (some ⟨vb, 0, none⟩) 1 1] w fun e w' => ∃ (g k : Nat), e = .returned (.slice (some ⟨g, 0, none⟩) (n + 1) k) ∧ B ≤ g ∧ Rd w' (some ⟨g, 0, none⟩) (u8s (rowB c p)) ∧ Below B w w' := by
  have hvc : w.cell? ⟨vb, 0, none⟩ = some (.int .u8 ((0 : Nat) : Int)) := by simp [World.cell?, hv]
  have hvw : vb < w.heap.size := (Array.getElem?_eq_some_iff.1 hv).1
  have hlen : (u8s c).length = n := by rw [u8s_length, hn]
  have hpre : ∀ j, j < n → w.cell? ⟨b, j, none⟩ = (u8s c)[j]? := fun j hj => by
    have h1 : j < (u8s c).length := by rw [hlen]; exact hj
    rw [List.getElem?_eq_getElem h1]
    exact H.cell j _ (List.getElem?_eq_getElem h1)
  have hrl : ∀ j, j < ((u8s c).take p ++ [Value.int .u8 ((0 : Nat) : Int)] ++ (u8s c).drop p).length → j < n + 1 := fun j hj => by
    simp only [List.length_append, List.length_take, List.length_drop, List.length_cons, List.length_nil, hlen] at hj
    omega
  rw [rowB_u8]
  by_cases hroom : n + 1 ≤ cap
  · by_cases hpn : p < n
    · refine (insB_mid w b n cap p 0 vb (u8s c) H hpn hroom hcm hne hv (by rw [hsb]; rfl) (fun t k h => by rw [hsb] at h; cases h; omega)).mono ?_
      rintro e w' ⟨rfl, rfl⟩
      refine ⟨b, cap, rfl, hB, rd_cells (by rw [setCells_size, setCells_size]; exact H.lt) (fun j hj => mid_cells w.drew b p n (u8s c) _ hlen hp (fun j hj => hpre j (by omega)) (fun j hj => H.some j (by omega)) j (hrl j hj)), ?_⟩
      exact setCells_below _ _ hB _ _ _ _ (setCells_below _ _ hB _ _ _ _ (Below.refl _ w).drew)
    · obtain rfl : p = n := by omega
      refine (insB_end w b p cap 0 vb (u8s c) H hroom hcm hvc).mono ?_
      rintro e w' ⟨rfl, rfl⟩
      refine ⟨b, cap, rfl, hB, rd_cells (by rw [setCells_size]; exact H.lt) (fun j hj => ?_), setCells_below _ _ hB _ _ _ _ (Below.refl _ w)⟩
      have h := mid_cells w b p p (u8s c) (.int .u8 ((0 : Nat) : Int)) hlen (Nat.le_refl _) hpre (fun j hj => H.some j (by omega)) j (hrl j hj)
      rw [← h, List.drop_eq_nil_of_le (by rw [hlen]; exact Nat.le_refl _)]
      rfl
  · obtain rfl : cap = n := by omega
    by_cases hpn : p < cap
    · refine (insB_grow w b cap p 0 vb (u8s c) H hpn (by omega) hvw hvc).mono ?_
      rintro e w' ⟨ROW, G, hRl, hRa, rfl, rfl⟩
      have hlt : w.heap.size < (w.alloc (.cells ROW 5)).heap.size := by simp
      refine ⟨w.heap.size, G, rfl, hBw, rd_cells (by rw [setCells_size]; show w.heap.size < ((w.alloc (.cells ROW 5)).drew.setCells _ _ _).heap.size; rw [setCells_size]; exact hlt) (fun j hj => mid_cells2 ((w.alloc (.cells ROW 5)).drew) (((w.alloc (.cells ROW 5)).drew.setCells w.heap.size p [.int .u8 ((0 : Nat) : Int)]).drew) w.heap.size p cap (u8s c) (.int .u8 ((0 : Nat) : Int)) hlen hp (fun j hj => ?_) (fun j hj => ?_) (fun _ => rfl) j (hrl j hj)), ?_⟩
      · show (w.alloc (.cells ROW 5)).cell? ⟨w.heap.size, j, none⟩ = _
        rw [World.cell?_alloc_at (w := w) _ _ w.heap.size j rfl, hRa j hj]
      · show ((w.alloc (.cells ROW 5)).cell? ⟨w.heap.size, j, none⟩).isSome = true
        rw [World.cell?_alloc_at (w := w) _ _ w.heap.size j rfl]
        exact isSome_at (by omega)
      · exact setCells_below _ _ hBw _ _ _ _ (setCells_below _ _ hBw _ _ _ _ ((Below.refl _ w).alloc hBw _).drew).drew
    · obtain rfl : p = cap := by omega
      refine (insB_endgrow w b p 0 vb (u8s c) H (by omega) hvc).mono ?_
      rintro e w' ⟨ROW, G, rfl, rfl⟩
      refine ⟨w.heap.size, G, rfl, hBw, rd_cells (by simp) (fun j hj => ?_), ((Below.refl _ w).drew).alloc hBw _⟩
      rw [World.cell?_alloc_at (w := w.drew) _ _ w.heap.size j rfl, Array.getElem?_append_left (by simp [hlen]; have := hrl j hj; omega), List.drop_eq_nil_of_le (by rw [hlen]; exact Nat.le_refl _), List.take_of_length_le (by rw [hlen]; exact Nat.le_refl _)]
      simp
end Go.Proofs.YtfmnnbeegfjnaaaGreat.Od
