/- The walks of package pack's leaves: numbers put in order by weights. -/
import Derived.Test.YtbegngilbngnoaaDoorPsA
import Derived.Test.YtbegngilbngnoaaDoorStYI
import Derived.Test.YtbegngilbngnoaaDoorBnC
namespace Go.Proofs.YtbegngilbngnoaaDoor.Ps
open Go.RowKit Go.Lib Rw Ls Od Pk St _root_.Go.Proofs.YtbegngilbngnoaaDoor.Nm
open Go.Sort (Holds ahead putRow size_putRow mapBlock grow PermIn)

theorem isnan_any (a : Nat) (w : World) : Calls Tryd.prog 72 #[.int .u64 a] w fun e w' => e = .returned (.bool false) ∧ w' = w := by
  have t : ((a : Int) == (a : Int)) = true := by simp
  go_enter Tryd.func72, Tryd.ntmps72
  go_wp2_with fail
  go_ret
  exact ⟨rfl, rfl⟩
def cmpV (a b : Nat) : Int := if a < b then -1 else if b < a then 1 else 0
theorem pcmp_any (a b : Nat) (w : World) : Calls Tryd.prog 63 #[.int .u64 a, .int .u64 b] w fun e w' => e = .returned (.int .i64 (cmpV a b)) ∧ w' = w := by
  have CN := Lib.hid isnan_any
  by_cases h1 : a < b
  · have F : Hid (cmpV a b = -1) := Lib.hid (if_pos h1)
    have t1 : decide ((a : Int) < (b : Int)) = true := decide_eq_true (by omega)
    have t2 : decide (a < b) = true := decide_eq_true h1
    clear h1
    go_enter Tryd.func63, Tryd.ntmps63
    go_wp2_with (go_at_call 72; refine (CN.out _ _).mono ?_; rintro e w1 ⟨rfl, rfl⟩)
    go_ret
    exact ⟨by rw [F.out]; rfl, rfl⟩
  · have t1 : decide ((a : Int) < (b : Int)) = false := decide_eq_false (by omega)
    have t2 : decide (a < b) = false := decide_eq_false h1
    by_cases h2 : b < a
    · have F : Hid (cmpV a b = 1) := Lib.hid (by unfold cmpV; rw [if_neg h1, if_pos h2])
      have t3 : decide ((b : Int) < (a : Int)) = true := decide_eq_true (by omega)
      have t4 : decide (b < a) = true := decide_eq_true h2
      clear h1 h2
      go_enter Tryd.func63, Tryd.ntmps63
      go_wp2_with (go_at_call 72; refine (CN.out _ _).mono ?_; rintro e w1 ⟨rfl, rfl⟩)
      go_ret
      exact ⟨by rw [F.out]; rfl, rfl⟩
    · have F : Hid (cmpV a b = 0) := Lib.hid (by unfold cmpV; rw [if_neg h1, if_neg h2])
      have t3 : decide ((b : Int) < (a : Int)) = false := decide_eq_false (by omega)
      have t4 : decide (b < a) = false := decide_eq_false h2
      clear h1 h2
      go_enter Tryd.func63, Tryd.ntmps63
      go_wp2_with (go_at_call 72; refine (CN.out _ _).mono ?_; rintro e w1 ⟨rfl, rfl⟩)
      go_ret
      exact ⟨by rw [F.out]; rfl, rfl⟩
/-- a symbol's weight -/
theorem leafw_any (ws : List Nat) (p : Option Addr) (c Bx i n : Nat) (W : World) (hn : n = ws.length) (hi : i < n) (hc : W.cell? ⟨Bx, 0, none⟩ = some (.slice p n c)) (hr : Rd W p (nums ws)) :
    Calls Tryd.prog 50 #[.int .i64 i, .pointer (some ⟨Bx, 0, none⟩)] W fun e w' => e = .returned (.int .u64 (wf ws i : Nat)) ∧ w' = W := by
  obtain ⟨a, rfl, cy⟩ := rd_num hr i (by rw [← hn]; exact hi)
  have F : Hid (wf ws i = ws.getD i 0) := Lib.hid rfl
  obtain ⟨y, hy⟩ : ∃ y, y = ws.getD i 0 := ⟨_, rfl⟩
  rw [← hy] at cy F
  have k0 : (0 : Int) ≤ (i : Int) := by omega
  have k1 : (i : Int) < (n : Int) := by omega
  clear hn hi hr hy
  go_enter Tryd.func50, Tryd.ntmps50
  go_wp2_with fail
  go_ret
  exact ⟨by rw [F.out]; rfl, rfl⟩
theorem cell_gr {w : World} {a : Addr} {v : Value} (hl : a.block < w.heap.size) (h : w.cell? a = some v) (n : Nat) (os : Array Obj) : (grow (w.drewN n) os).cell? a = some v := by
  rw [Go.Sort.cell?_grow _ _ _ (by exact hl)]; exact h
theorem below_gr (w : World) (n : Nat) (os : Array Obj) : RowKit.Below w.heap.size w (grow (w.drewN n) os) :=
  ⟨rfl, rfl, rfl, by rw [Go.Sort.size_grow]; exact Nat.le_add_right _ _, fun k hk => by rw [Go.Sort.heap_grow_old _ _ (by exact hk)]; rfl⟩
theorem lays_of {w w' : World} (h : w' = w) : ∃ q os', w' = grow (w.drewN q) os' := ⟨0, #[], by rw [h, Go.Sort.grow_empty]; rfl⟩
/-- two symbols by their weights -/
theorem risec_any (ws : List Nat) (p : Option Addr) (c Bx Bf x y n : Nat) (W : World) (hn : n = ws.length) (hx : x < n) (hy : y < n) (hfl : Bf < W.heap.size) (hcl : Bx < W.heap.size) (hf : W.cell? ⟨Bf, 0, none⟩ = some (.func (.func 50) #[] #[.pointer (some ⟨Bx, 0, none⟩)])) (hc : W.cell? ⟨Bx, 0, none⟩ = some (.slice p n c)) (hr : Rd W p (nums ws)) :
    Calls Tryd.prog 62 #[.int .i64 x, .int .i64 y, .pointer (some ⟨Bf, 0, none⟩)] W fun e w' => e = .returned (.int .i64 (cmpV (wf ws x) (wf ws y))) ∧ ∃ q os', w' = grow (W.drewN q) os' := by
  have mixed : Tryd.prog.follows Departure.mixedOrders = true := by kernel_rfl
  have C1 : Hid (∀ n os, Calls Tryd.prog 50 #[.int .i64 x, .pointer (some ⟨Bx, 0, none⟩)] (grow (W.drewN n) os) fun e w' => e = .returned (.int .u64 (wf ws x : Nat)) ∧ ∃ q os', w' = grow ((grow (W.drewN n) os).drewN q) os') := Lib.hid (fun z os => (leafw_any ws p c Bx x n _ hn hx (cell_gr (a := ⟨Bx, 0, none⟩) hcl hc z os) (hr.below (below_gr W z os))).mono fun e w' ⟨h1, h2⟩ => ⟨h1, lays_of h2⟩)
  have C2 : Hid (∀ n os, Calls Tryd.prog 50 #[.int .i64 y, .pointer (some ⟨Bx, 0, none⟩)] (grow (W.drewN n) os) fun e w' => e = .returned (.int .u64 (wf ws y : Nat)) ∧ ∃ q os', w' = grow ((grow (W.drewN n) os).drewN q) os') := Lib.hid (fun z os => (leafw_any ws p c Bx y n _ hn hy (cell_gr (a := ⟨Bx, 0, none⟩) hcl hc z os) (hr.below (below_gr W z os))).mono fun e w' ⟨h1, h2⟩ => ⟨h1, lays_of h2⟩)
  have C3 : Hid (∀ n os, Calls Tryd.prog 63 #[.int .u64 (wf ws x : Nat), .int .u64 (wf ws y : Nat)] (grow (W.drewN n) os) fun e w' => e = .returned (.int .i64 (cmpV (wf ws x) (wf ws y))) ∧ ∃ q os', w' = grow ((grow (W.drewN n) os).drewN q) os') := Lib.hid (fun z os => (pcmp_any _ _ _).mono fun e w' ⟨h1, h2⟩ => ⟨h1, lays_of h2⟩)
  have l0 := fun n os => cell_gr (a := ⟨Bf, 0, none⟩) hfl hf n os
  generalize wf ws x = u at C1 C3 ⊢
  generalize wf ws y = v at C2 C3 ⊢
  generalize cmpV u v = r at C3 ⊢
  clear hn hx hy hr hc hcl hfl
  go_enter Tryd.func62, Tryd.ntmps62
  go_wp2_with fail
  go_quiet_grown (first | (with_reducible refine Calls.grown_of (C1.out _ _)) | (with_reducible refine Calls.grown_of (C2.out _ _)) | (with_reducible refine Calls.grown_of (C3.out _ _)))
  go_wp2_with fail
  go_ret
  exact ⟨rfl, _, _, rfl⟩
/-! ### worlds of the sort -/
section
variable {enc : Nat → Value} {w0 : World} {g m : Nat} {d : Array Nat} {os : Array Obj}
theorem sw_size : w0.heap.size ≤ (sortWorld enc w0 g 0 m d os).heap.size := by
  unfold sortWorld; rw [Go.Sort.size_grow, size_putRow]; exact Nat.le_add_right _ _
theorem sw_cell {a : Addr} {v : Value} (hne : a.block ≠ g) (hlt : a.block < w0.heap.size) (h : w0.cell? a = some v) : (sortWorld enc w0 g 0 m d os).cell? a = some v := by
  unfold sortWorld
  rw [Go.Sort.cell?_grow _ _ _ (by rw [size_putRow]; exact hlt), Go.Sort.cell?_putRow_other enc _ g 0 _ _ (.inl hne)]
  exact h
theorem sw_rd {p : Option Addr} {xs : List Value} (h : Rd w0 p xs) (hne : ∀ a, p = some a → a.block ≠ g) : Rd (sortWorld enc w0 g 0 m d os) p xs := fun i hi => by
  obtain ⟨a, e, hl, hc⟩ := h i hi
  exact ⟨a, e, Nat.lt_of_lt_of_le hl sw_size, sw_cell (by rw [add_block]; exact hne a e) (by rw [add_block]; exact hl) hc⟩
theorem sw_below {W : World} {B : Nat} (h : SW enc w0 g 0 d W) (hB : B ≤ g) (hb : B ≤ w0.heap.size) : RowKit.Below B w0 W := by
  obtain ⟨n, os, rfl⟩ := h
  refine ⟨rfl, rfl, rfl, sw_size, fun k hk => ?_⟩
  have hs : k < (putRow enc (Go.Sort.ahead w0 n) g 0 d).heap.size := by rw [size_putRow]; exact Nat.lt_of_lt_of_le hk hb
  unfold sortWorld
  rw [Go.Sort.heap_grow_old _ _ hs]
  simp only [putRow, mapBlock, Array.getElem?_modify]
  rw [if_neg (by omega)]
  rfl
end
theorem sw_below' {α : Type} [Inhabited α] {enc : α → Value} {w0 : World} {g : Nat} {d : Array α} {W : World} {B : Nat} (h : ∃ n os, W = sortWorld enc w0 g 0 n d os) (hB : B ≤ g) (hb : B ≤ w0.heap.size) : RowKit.Below B w0 W := by
  obtain ⟨n, os, rfl⟩ := h
  refine ⟨rfl, rfl, rfl, by unfold sortWorld; rw [Go.Sort.size_grow, size_putRow]; exact Nat.le_add_right _ _, fun k hk => ?_⟩
  have hs : k < (putRow enc (Go.Sort.ahead w0 n) g 0 d).heap.size := by rw [size_putRow]; exact Nat.lt_of_lt_of_le hk hb
  unfold sortWorld
  rw [Go.Sort.heap_grow_old _ _ hs]
  simp only [putRow, mapBlock, Array.getElem?_modify]
  rw [if_neg (by omega)]
  rfl
theorem holds_own {enc : Nat → Value} {w : World} {B g cap n : Nat} {e : TypeId} {L : List Nat} {xs : List Value} (h : w.ownsRow B e 1 (.slice (some ⟨g, 0, none⟩) n cap) n xs) (hx : xs = L.map enc) : Holds enc w g 0 L.toArray := fun j hj => by
  have hj2 : j < L.length := by simpa using hj
  have hl : n = L.length := by have := h.1; rw [hx] at this; simpa using this.symm
  rw [Nat.zero_add]
  refine ⟨?_, h.frozenAt j⟩
  rw [h.cellAt j (by omega), hx]
  have e : L.toArray[j]! = L[j] := by simp [hj2]
  rw [e]
  simp [hj2]
theorem srt_mod {ws : List Nat} {n : Nat} {d d' : Array Nat} {L : List Nat} (hd : d = L.toArray) (hL : ∀ x ∈ L, x < n) (hp : PermIn 0 L.length d d') (hs : Srt (fun x => wf ws (x % n)) d' 0 L.length) : Srt (wf ws) d' 0 L.length := fun i j h1 h2 h3 => by
  have key : ∀ t, t < L.length → d'[t]! < n := fun t ht => by
    obtain ⟨u, _, hu, e⟩ := perm_at hp (by rw [hd]; simp) (Nat.zero_le t) ht
    rw [e, hd, getElem!_pos L.toArray u (by simpa using hu)]
    exact hL _ (by simp)
  have := hs i j h1 h2 h3
  have e1 := Nat.mod_eq_of_lt (key i (by omega))
  have e2 := Nat.mod_eq_of_lt (key j h3)
  unfold R at this ⊢
  simp only [e1, e2] at this
  exact this
set_option maxHeartbeats 4000000 in
theorem rise_any (ws : List Nat) (p : Option Addr) (c Bx n B g cap sz : Nat) (w : World) (hn : n = ws.length) (hl : n ≤ 1000000) (hsz : sz = (sy ws).length) (hB : B ≤ w.heap.size)
    (ho : w.ownsRow B 3 1 (.slice (some ⟨g, 0, none⟩) sz cap) sz (zs (up (sy ws)))) (hg : g < w.heap.size) (hgB : B ≤ g) (hbx : Bx < w.heap.size) (hbg : Bx ≠ g) (hc : w.cell? ⟨Bx, 0, none⟩ = some (.slice p n c)) (hr : Rd w p (nums ws)) (hpg : 0 < n → ∀ a, p = some a → a.block ≠ g) :
    Calls Tryd.prog 49 #[.slice (some ⟨g, 0, none⟩) sz cap, .func (.func 50) #[] #[.pointer (some ⟨Bx, 0, none⟩)]] w fun e w' => e = .returned (.tuple #[]) ∧ RowKit.Below B w w' ∧ Rd w' (some ⟨g, 0, none⟩) (zs (up (lv ws))) := by
  obtain ⟨Bf, hBf⟩ : ∃ Bf, Bf = w.heap.size := ⟨_, rfl⟩
  obtain ⟨w1, hw1⟩ : ∃ w1, w1 = w.alloc (.cells #[.func (.func 50) #[] #[.pointer (some ⟨Bx, 0, none⟩)]] 83) := ⟨_, rfl⟩
  have hal : RowKit.Below w.heap.size w w1 := by rw [hw1]; exact (RowKit.Below.refl _ w).alloc (Nat.le_refl _) _
  have hs1 : w1.heap.size = Bf + 1 := by rw [hw1, hBf]; simp
  have hlt : ∀ x ∈ sy ws, x < n := fun x hx => by rw [hn]; exact (sy_lt hx).1
  have hsy : (sy ws).length ≤ n := by rw [hn]; exact sy_len ws
  have ho1 := own_below ho hal
  have hH : Holds (fun x : Nat => Value.int .i64 ((x % n : Nat) : Int)) w1 g 0 (sy ws).toArray := holds_own ho1 (by
    unfold zs up
    rw [List.map_map]
    apply List.map_congr_left
    intro x hx
    simp [Nat.mod_eq_of_lt (hlt x hx)])
  have hR : Row1 (fun x : Nat => Value.int .i64 ((x % n : Nat) : Int)) w1 g 0 (sy ws).toArray := ⟨fun _ => rfl, hH, by omega⟩
  have hcmp : 0 < sz → CmpLays1 Tryd.prog 62 #[.pointer (some ⟨Bf, 0, none⟩)] (fun x : Nat => Value.int .i64 ((x % n : Nat) : Int)) (cmpK fun x => wf ws (x % n)) g 0 (sy ws).toArray.size w1 := by
    intro h0 m os dk hdk x y
    have hn0 : 0 < n := by omega
    have hz := sw_size (enc := fun x : Nat => Value.int .i64 ((x % n : Nat) : Int)) (w0 := w1) (g := g) (m := m) (d := dk) (os := os)
    refine (risec_any ws p c Bx Bf (x % n) (y % n) n _ hn (Nat.mod_lt _ hn0) (Nat.mod_lt _ hn0) (by omega) (by omega) ?_ ?_ ?_).mono ?_
    · refine sw_cell (by show Bf ≠ g; omega) (by show Bf < _; omega) ?_
      rw [hw1, hBf]; simp
    · refine sw_cell (by exact hbg) (by show Bx < _; omega) ?_
      rw [hal.cell (p := ⟨Bx, 0, none⟩) hbx]; exact hc
    · exact sw_rd (hr.below hal) (hpg hn0)
    · rintro e w' ⟨h1, q, os', h2⟩
      exact ⟨h1, q, os', h2⟩
  have hC := sort_I (fun x : Nat => Value.int .i64 ((x % n : Nat) : Int)) (fun x => wf ws (x % n)) 62 #[.pointer (some ⟨Bf, 0, none⟩)] g 0 cap sz (sy ws).toArray w1
    (enters_of Tryd.func62 (by kernel_rfl) rfl) hcmp hR (by rw [hsz]; simp) (by omega) (sy ws).toArray w1 (by rw [hsz]; simp) (by rw [hsz]; exact asc_of (sy_lt' ws)) (SW.start hH)
  have C := Lib.hid hC
  have FIN : Hid (∀ e w', MgI (fun x : Nat => Value.int .i64 ((x % n : Nat) : Int)) (fun x => wf ws (x % n)) w1 g 0 (sy ws).toArray 0 sz e w' → e = .returned (.tuple #[]) ∧ RowKit.Below B w w' ∧ Rd w' (some ⟨g, 0, none⟩) (zs (up (lv ws)))) := Lib.hid (by
    rintro e w' ⟨rfl, d', h1, h2, h3⟩
    rw [hsz] at h1 h2
    have h4 := lv_sorted h1 (srt_mod rfl hlt h1 h2)
    have hb := sw_below (B := B) h3 hgB (by omega)
    refine ⟨rfl, (hal.mono hB).trans hb, fun i hi => ?_⟩
    have hds : d'.size = (sy ws).length := by have := h1.1; simpa using this
    have hil : i < (lv ws).length := by simpa [zs, up] using hi
    have hi2 : i < d'.size := by rw [hds, ← lv_len]; exact hil
    have hh := (h3.holds (by omega) hH (by rw [hds]; simp)) i hi2
    refine ⟨_, rfl, h3.lt (by omega), ?_⟩
    rw [Addr.add_lit, hh.1]
    have e1 : d'[i]! = (lv ws)[i] := by
      rw [getElem!_pos d' i hi2]
      simp [← h4]
    have e2 : (lv ws)[i] < n := hlt _ ((lv_perm ws).mem_iff.1 (List.getElem_mem hil))
    rw [e1]
    show some (Value.int .i64 (((lv ws)[i] % n : Nat) : Int)) = _
    rw [Nat.mod_eq_of_lt e2]
    simp [zs, up, hil])
  clear hC hcmp hR hH ho ho1 hr hc hal hlt hsy hpg
  rw [hw1] at C
  clear hn hsz hB hg hgB hbx hbg hl hs1
  subst hBf
  go_enter Tryd.func49, Tryd.ntmps49
  go_wp2_with fail
  refine C.out.mono ?_
  rintro e w2 hm
  obtain ⟨rfl, h2, h3⟩ := FIN.out _ _ (by rw [hw1]; exact hm)
  have H2 := Lib.hid h2; have H3 := Lib.hid h3
  clear h2 h3 hm
  go_wp2_with fail
  go_end0
  exact ⟨rfl, H2.out, H3.out⟩
end Go.Proofs.YtbegngilbngnoaaDoor.Ps
