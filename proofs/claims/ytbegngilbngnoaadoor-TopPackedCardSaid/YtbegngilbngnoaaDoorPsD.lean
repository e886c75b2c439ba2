/- The walks of package pack's packages put in order. -/
import Derived.Test.YtbegngilbngnoaaDoorPsC
import Derived.Test.YtbegngilbngnoaaDoorStYP
namespace Go.Proofs.YtbegngilbngnoaaDoor.Ps
open Go.RowKit Go.Lib Rw Ls Od Pk St _root_.Go.Proofs.YtbegngilbngnoaaDoor.Nm
open Go.Sort (HoldsK putRowK size_putRowK grow PermIn flatK get_flatK size_flatK)

/-- a package's cells -/
def pv (W : Nat → Nat) (t : Tr) : List Value := [.int .u64 ((t.wt W : Nat) : Int), .bool (leaf t)]
def pcs (W : Nat → Nat) (T : List Tr) : List Value := T.flatMap (pv W)
theorem pv_length (W : Nat → Nat) (t : Tr) : (pv W t).length = 2 := rfl
theorem pv_one (W : Nat → Nat) (t : Tr) : ∀ v ∈ pv W t, v.oneCell' = true := by intro v hv; simp [pv] at hv; rcases hv with rfl | rfl <;> rfl
theorem pcs_length (W : Nat → Nat) : ∀ T : List Tr, (pcs W T).length = 2 * T.length
  | [] => rfl
  | t :: T => by
    have := pcs_length W T
    unfold pcs at *
    rw [List.flatMap_cons, List.length_append, this]; simp [pv]; omega
theorem pcs_app (W : Nat → Nat) (A B : List Tr) : pcs W (A ++ B) = pcs W A ++ pcs W B := by simp [pcs]
theorem pcs_at (W : Nat → Nat) : ∀ (T : List Tr) (i k : Nat) (h : i < T.length), k < 2 → (pcs W T)[i * 2 + k]? = (pv W T[i])[k]?
  | [], i, k, h, _ => by simp at h
  | t :: T, 0, k, h, hk => by
    unfold pcs
    rw [List.flatMap_cons, List.getElem?_append_left (by simp [pv]; omega)]
    simp
  | t :: T, i + 1, k, h, hk => by
    have := pcs_at W T i k (by simpa using h) hk
    unfold pcs at *
    rw [List.flatMap_cons, List.getElem?_append_right (by simp [pv]; omega)]
    rw [show (i + 1) * 2 + k - (pv W t).length = i * 2 + k by simp [pv]; omega, this]
    simp
/-- weights of packages are numbers -/
theorem weight_any (x : Nat) (b : Bool) (W : World) : Calls Tryd.prog 67 #[.agg #[.int .u64 x, .bool b]] W fun e w' => e = .returned (.int .u64 x) ∧ ∃ q os', w' = grow (W.drewN q) os' := by
  go_enter Tryd.func67, Tryd.ntmps67
  go_wp2_with fail
  go_ret
  exact ⟨rfl, 0, #[_], by rw [Go.Sort.alloc_eq_grow]; rfl⟩
theorem risep_any (x y : Nat) (b c : Bool) (Bf : Nat) (W : World) (hfl : Bf < W.heap.size) (hf : W.cell? ⟨Bf, 0, none⟩ = some (.func (.func 67) #[] #[])) :
    Calls Tryd.prog 74 #[.agg #[.int .u64 x, .bool b], .agg #[.int .u64 y, .bool c], .pointer (some ⟨Bf, 0, none⟩)] W fun e w' => e = .returned (.int .i64 (cmpV x y)) ∧ ∃ q os', w' = grow (W.drewN q) os' := by
  have mixed : Tryd.prog.follows Departure.mixedOrders = true := by kernel_rfl
  obtain ⟨w1, hw1⟩ : ∃ w1, w1 = W.alloc (.cells #[.int .u64 x, .bool b] 89) := ⟨_, rfl⟩
  obtain ⟨w2, hw2⟩ : ∃ w2, w2 = w1.alloc (.cells #[.int .u64 y, .bool c] 89) := ⟨_, rfl⟩
  have s1 : w1.heap.size = W.heap.size + 1 := by rw [hw1]; simp
  have s2 : w2.heap.size = W.heap.size + 1 + 1 := by rw [hw2]; simp [s1]
  have a1 : Below W.heap.size W w1 := by rw [hw1]; exact (Below.refl _ _).alloc (Nat.le_refl _) _
  have a2 : Below w1.heap.size w1 w2 := by rw [hw2]; exact (Below.refl _ _).alloc (Nat.le_refl _) _
  have f2 : w2.cell? ⟨Bf, 0, none⟩ = some (.func (.func 67) #[] #[]) := by rw [a2.cell (p := ⟨Bf, 0, none⟩) (by show Bf < _; omega), a1.cell (p := ⟨Bf, 0, none⟩) hfl]; exact hf
  have x0 : w2.cell? ⟨W.heap.size, 0, none⟩ = some (.int .u64 x) := by rw [a2.cell (p := ⟨W.heap.size, 0, none⟩) (by show W.heap.size < _; omega), hw1]; simp
  have x1 : w2.cell? ⟨W.heap.size, 1, none⟩ = some (.bool b) := by rw [a2.cell (p := ⟨W.heap.size, 1, none⟩) (by show W.heap.size < _; omega), hw1]; simp
  have y0 : w2.cell? ⟨W.heap.size + 1, 0, none⟩ = some (.int .u64 y) := by rw [hw2, ← s1]; simp
  have y1 : w2.cell? ⟨W.heap.size + 1, 1, none⟩ = some (.bool c) := by rw [hw2, ← s1]; simp
  have l0 := fun n os => cell_gr (a := ⟨Bf, 0, none⟩) (by show Bf < w2.heap.size; omega) f2 n os
  have l1 := fun n os => cell_gr (a := ⟨W.heap.size, 0, none⟩) (by show W.heap.size < w2.heap.size; omega) x0 n os
  have l2 := fun n os => cell_gr (a := ⟨W.heap.size, 1, none⟩) (by show W.heap.size < w2.heap.size; omega) x1 n os
  have l3 := fun n os => cell_gr (a := ⟨W.heap.size + 1, 0, none⟩) (by show W.heap.size + 1 < w2.heap.size; omega) y0 n os
  have l4 := fun n os => cell_gr (a := ⟨W.heap.size + 1, 1, none⟩) (by show W.heap.size + 1 < w2.heap.size; omega) y1 n os
  have C1 : Hid (∀ n os, Calls Tryd.prog 67 #[.agg #[.int .u64 x, .bool b]] (grow (w2.drewN n) os) fun e w' => e = .returned (.int .u64 x) ∧ ∃ q os', w' = grow ((grow (w2.drewN n) os).drewN q) os') := Lib.hid (fun z os => weight_any x b _)
  have C2 : Hid (∀ n os, Calls Tryd.prog 67 #[.agg #[.int .u64 y, .bool c]] (grow (w2.drewN n) os) fun e w' => e = .returned (.int .u64 y) ∧ ∃ q os', w' = grow ((grow (w2.drewN n) os).drewN q) os') := Lib.hid (fun z os => weight_any y c _)
  have C3 : Hid (∀ n os, Calls Tryd.prog 63 #[.int .u64 x, .int .u64 y] (grow (w2.drewN n) os) fun e w' => e = .returned (.int .i64 (cmpV x y)) ∧ ∃ q os', w' = grow ((grow (w2.drewN n) os).drewN q) os') := Lib.hid (fun z os => (pcmp_any _ _ _).mono fun e w' ⟨h1, h2⟩ => ⟨h1, lays_of h2⟩)
  have HW : Hid (w2 = grow (W.drewN 0) #[.cells #[.int .u64 x, .bool b] 89, .cells #[.int .u64 y, .bool c] 89]) := Lib.hid (by rw [hw2, hw1, Go.Sort.alloc_eq_grow, Go.Sort.alloc_eq_grow, Go.Sort.grow_grow]; rfl)
  rw [hw1] at hw2
  generalize cmpV x y = r at C3 ⊢
  clear f2 x0 x1 y0 y1 a1 a2 s2 s1 hw1 hf hfl
  go_enter Tryd.func74, Tryd.ntmps74
  go_wp2_with fail
  rw [← hw2]
  clear hw2
  go_quiet_grown (first | (with_reducible refine Calls.grown_of (C1.out _ _)) | (with_reducible refine Calls.grown_of (C2.out _ _)) | (with_reducible refine Calls.grown_of (C3.out _ _)))
  go_wp2_with fail
  go_ret
  exact ⟨rfl, nq, _ ++ osq, by rw [HW.out]; show grow (grow ((W.drewN 0).drewN nq) _) osq = _; rw [Go.Sort.grow_grow]; rfl⟩
section
variable {enc : Nat → List Value} {w0 : World} {g m : Nat} {d : Array Nat} {os : Array Obj}
theorem swk_size : w0.heap.size ≤ (sortWorldK enc 2 w0 g 0 m d os).heap.size := by
  unfold sortWorldK; rw [Go.Sort.size_grow]; unfold putRowK; rw [size_putRow]; exact Nat.le_add_right _ _
theorem swk_cell {a : Addr} {v : Value} (hne : a.block ≠ g) (hlt : a.block < w0.heap.size) (h : w0.cell? a = some v) : (sortWorldK enc 2 w0 g 0 m d os).cell? a = some v := by
  unfold sortWorldK
  rw [Go.Sort.cell?_grow _ _ _ (by unfold putRowK; rw [size_putRow]; exact hlt)]
  unfold putRowK
  rw [Go.Sort.cell?_putRow_other id _ g 0 _ _ (.inl hne)]
  exact h
theorem swk_below {W : World} {B : Nat} (h : SWK enc 2 w0 g 0 d W) (hB : B ≤ g) (hb : B ≤ w0.heap.size) : RowKit.Below B w0 W := sw_below' (enc := id) (d := flatK enc 2 d) h hB hb
end
theorem flat_at (W : Nat → Nat) (T : List Tr) (t : Nat) (ht : t < T.length * 2) (enc : Nat → List Value) (d : Array Nat) (hd : d.size = T.length) (he : ∀ i, i < T.length → enc d[i]! = pv W (at' T i)) : (flatK enc 2 d)[t]! = (pcs W T).getD t (.bool false) := by
  rw [get_flatK _ _ _ _ (by rw [hd]; exact ht)]
  have h1 : t / 2 < T.length := by omega
  have h2 := pcs_at W T (t / 2) (t % 2) h1 (by omega)
  rw [show t / 2 * 2 + t % 2 = t by omega] at h2
  rw [List.getD_eq_getElem?_getD, h2, he _ h1]
  have h3 : at' T (t / 2) = T[t / 2] := by simp [at', h1]
  rw [h3]
  have h4 : t % 2 < (pv W T[t / 2]).length := by show t % 2 < 2; omega
  simp [h4]
theorem holdsK_own {W : Nat → Nat} {T : List Tr} {w : World} {B g cap n : Nat} {e : TypeId} (h : w.ownsRow B e 2 (.slice (some ⟨g, 0, none⟩) n cap) n (pcs W T)) (enc : Nat → List Value) (d : Array Nat) (hd : d.size = T.length) (he : ∀ i, i < T.length → enc d[i]! = pv W (at' T i)) : HoldsK enc 2 w g 0 d := fun j hj => by
  rw [size_flatK, hd] at hj
  have hl : n * 2 = T.length * 2 := by have := h.1; rw [pcs_length] at this; omega
  rw [Nat.zero_add, flat_at W T j hj enc d hd he]
  refine ⟨?_, h.frozenAt j⟩
  rw [h.cellAt j (by omega), List.getD_eq_getElem?_getD, List.getElem?_eq_getElem (by rw [pcs_length]; omega)]
  rfl
/-- packages that lie in a row -/
def PkAt (w : World) (B : Nat) (W : Nat → Nat) (g n cap : Nat) (T : List Tr) : Prop := w.ownsRow B 89 2 (.slice (some ⟨g, 0, none⟩) n cap) n (pcs W T)
set_option maxHeartbeats 4000000 in
theorem risek_any (V : Nat → Nat) (X Y : List Tr) (B g cap sz : Nat) (w : World) (hl : sz ≤ 1000000) (hsz : sz = (X ++ Y).length) (h0 : 0 < sz) (hB : B ≤ w.heap.size) (hX : Up (Tr.wt V) X) (hY : Up (Tr.wt V) Y)
    (ho : PkAt w B V g sz cap (X ++ Y)) (hg : g < w.heap.size) (hgB : B ≤ g) :
    Calls Tryd.prog 66 #[.slice (some ⟨g, 0, none⟩) sz cap, .func (.func 67) #[] #[]] w fun e w' => e = .returned (.tuple #[]) ∧ RowKit.Below B w w' ∧ Rd w' (some ⟨g, 0, none⟩) (pcs V (mrg (Tr.wt V) X Y)) := by
  obtain ⟨Bf, hBf⟩ : ∃ Bf, Bf = w.heap.size := ⟨_, rfl⟩
  obtain ⟨w1, hw1⟩ : ∃ w1, w1 = w.alloc (.cells #[.func (.func 67) #[] #[]] 111) := ⟨_, rfl⟩
  have hal : RowKit.Below w.heap.size w w1 := by rw [hw1]; exact (RowKit.Below.refl _ w).alloc (Nat.le_refl _) _
  have hs1 : w1.heap.size = Bf + 1 := by rw [hw1, hBf]; simp
  obtain ⟨Z, hZ⟩ : ∃ Z, Z = X ++ Y := ⟨_, rfl⟩
  have hZl : Z.length = sz := by rw [hZ, hsz]
  have ho1 := own_below ho hal
  have hrs : (Array.range sz).size = Z.length := by rw [hZl]; simp
  have hH : HoldsK (fun i : Nat => pv V (at' Z (i % sz))) 2 w1 g 0 (Array.range sz) := holdsK_own (T := Z) (by rw [hZ]; exact ho1) _ _ hrs (fun i hi => by
    have hi2 : i < sz := by omega
    have : (Array.range sz)[i]! = i := by rw [getElem!_pos _ _ (by simpa using hi2)]; simp
    rw [this, Nat.mod_eq_of_lt hi2])
  have hR : RowK (fun i : Nat => pv V (at' Z (i % sz))) 2 w1 g 0 (Array.range sz) := ⟨fun _ => rfl, fun i => pv_one V _, hH, by omega⟩
  have hcmp : 0 < sz → CmpLays Tryd.prog 74 #[.pointer (some ⟨Bf, 0, none⟩)] (fun i : Nat => pv V (at' Z (i % sz))) 2 (cmpK fun i => wkey V Z (i % sz)) g 0 (Array.range sz).size w1 := by
    intro _ m os dk hdk x y
    have hz := swk_size (enc := fun i : Nat => pv V (at' Z (i % sz))) (w0 := w1) (g := g) (m := m) (d := dk) (os := os)
    refine (risep_any _ _ _ _ Bf _ (by omega) ?_).mono ?_
    · refine swk_cell (by show Bf ≠ g; omega) (by show Bf < _; omega) ?_
      rw [hw1, hBf]; simp
    · rintro e w' ⟨h1, q, os', h2⟩
      exact ⟨h1, q, os', h2⟩
  have hasc : St.Asc (Array.range sz) 0 sz := by
    have := asc_of (range_lt sz)
    simpa using this
  have hC := sort_P 2 Tryd.isAgg89 Tryd.sizeOf89 (fun i : Nat => pv V (at' Z (i % sz))) (fun i => wkey V Z (i % sz)) 74 #[.pointer (some ⟨Bf, 0, none⟩)] g 0 cap sz (Array.range sz) w1
    (enters_of Tryd.func74 (by kernel_rfl) rfl) hcmp hR (by simp) (by omega) (Array.range sz) w1 (by simp) hasc (SWK.start hH)
  have C := Lib.hid hC
  have FIN : Hid (∀ e w', MgP 2 (fun i : Nat => pv V (at' Z (i % sz))) (fun i => wkey V Z (i % sz)) w1 g 0 (Array.range sz) 0 sz e w' → e = .returned (.tuple #[]) ∧ RowKit.Below B w w' ∧ Rd w' (some ⟨g, 0, none⟩) (pcs V (mrg (Tr.wt V) X Y))) := Lib.hid (by
    rintro e w' ⟨rfl, d', h1, h2, h3⟩
    have hlt : ∀ t, t < sz → d'[t]! < sz := fun t ht => by
      obtain ⟨u, _, hu, e⟩ := perm_at h1 (by simp) (Nat.zero_le t) ht
      rw [e, getElem!_pos (Array.range sz) u (by simpa using hu)]
      simpa using hu
    have h2' : Srt (wkey V (X ++ Y)) d' 0 sz := fun i j g1 g2 g3 => by
      have := h2 i j g1 g2 g3
      unfold St.R at this ⊢
      simp only [Nat.mod_eq_of_lt (hlt i (by omega)), Nat.mod_eq_of_lt (hlt j g3)] at this
      rw [← hZ]; exact this
    have h4 := level_sorted hX hY hsz h1 h2'
    have hb := swk_below (B := B) h3 hgB (by omega)
    have hds : d'.size = sz := by have := h1.1; simpa using this
    have hml : (mrg (Tr.wt V) X Y).length = sz := by rw [← h4]; simp [hds]
    refine ⟨rfl, (hal.mono hB).trans hb, fun i hi => ?_⟩
    rw [pcs_length, hml] at hi
    have hh := (h3.holds (by omega) hH (by rw [hds]; simp)) i (by rw [size_flatK, hds]; omega)
    refine ⟨_, rfl, h3.lt (by omega), ?_⟩
    rw [Addr.add_lit, hh.1, flat_at V (mrg (Tr.wt V) X Y) i (by rw [hml]; omega) _ d' (by rw [hds, hml]) (fun j hj => by
      rw [hml] at hj
      have e1 : at' (mrg (Tr.wt V) X Y) j = at' Z d'[j]! := by
        rw [← h4, ← hZ]
        have hj2 : j < d'.size := by omega
        unfold at'
        rw [List.getD_eq_getElem?_getD, List.getElem?_map, getElem!_pos d' j hj2]
        simp [hj2]
      rw [e1]
      show pv V (at' Z (d'[j]! % sz)) = _
      rw [Nat.mod_eq_of_lt (hlt j hj)])]
    rfl)
  clear hC hcmp hR hH ho ho1 hal hrs hasc hX hY
  rw [hw1] at C
  clear hsz hB hg hgB hl hs1 hZl
  subst hBf
  go_enter Tryd.func66, Tryd.ntmps66
  go_wp2_with fail
  refine C.out.mono ?_
  rintro e w2 hm
  obtain ⟨rfl, h2, h3⟩ := FIN.out _ _ (by rw [hw1]; exact hm)
  have H2 := Lib.hid h2; have H3 := Lib.hid h3
  clear h2 h3 hm
  go_wp2_with fail
  go_end0
  exact ⟨rfl, H2.out, H3.out⟩
end Go.Proofs.YtbegngilbngnoaaDoor.Ps
