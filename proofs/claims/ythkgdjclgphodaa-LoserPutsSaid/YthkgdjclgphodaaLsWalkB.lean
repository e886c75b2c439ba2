/- The walks of build, and of the document's both and tree. -/
import Derived.Test.YthkgdjclgphodaaLsWalkA
import Derived.Test.YthkgdjclgphodaaLsRow
import Derived.Deep.CutRange
namespace Go.Proofs.Ythkgdjclgphodaa.Ls
open Go.RowKit Rw Nm

theorem info_int : (Try.prog.info? 3).map (fun i => (i.zero, i.size, i.bytes)) = some (some (.int .i64 0), 1, 8) := by kernel_rfl
theorem up_zeros (n : Nat) : (madeCells (Value.int .i64 0).cells (n * 1)).toList = zs (up (List.replicate n 0)) := by
  rw [show (Value.int .i64 0).cells = #[Value.int .i64 0] by simp [Value.cells], Nat.mul_one, toList_madeCells_one]
  simp [zs, up]
/-- a slice of n numbers of the call's own -/
def Nums (w : World) (B g n : Nat) (L : List Nat) : Prop := w.ownsRow B 3 1 (.slice (some ⟨g, 0, none⟩) n n) n (zs (up L))
theorem Nums.len {w : World} {B g n : Nat} {L : List Nat} (h : Nums w B g n L) : L.length = n := by
  have := h.1; rw [zs_length, up_length] at this; omega
theorem Nums.lt {w : World} {B g n : Nat} {L : List Nat} (h : Nums w B g n L) : B ≤ g ∧ g < w.heap.size := by
  rcases h.2 with ⟨h2, _⟩ | ⟨g', cap, cur, hv, hg, hh, _⟩
  · cases h2
  · cases hv; exact ⟨hg, (Array.getElem?_eq_some_iff.1 hh).1⟩
theorem Nums.cell {w : World} {B g n : Nat} {L : List Nat} (h : Nums w B g n L) {k : Nat} (hk : k < n) : w.cell? ⟨g, k, none⟩ = some (.int .i64 (L.getD k 0 : Nat)) := by
  have hl := h.len
  have := h.cells (g := g) rfl k (.int .i64 (L.getD k 0 : Nat)) (by
    have e : (zs (up L))[k]? = some ((zs (up L)).getD k (.bool false)) := by rw [List.getD_eq_getElem?_getD, List.getElem?_eq_getElem (by rw [zs_length, up_length, hl]; exact hk)]; rfl
    rw [e, zs_getD _ _ (by rw [up_length, hl]; exact hk), up_getD _ _ (by rw [hl]; exact hk)])
  simpa [Addr.add_lit] using this
theorem Nums.free {w : World} {B g n : Nat} {L : List Nat} (h : Nums w B g n L) (k : Nat) : w.frozen? ⟨g, k, none⟩ = false := h.frozenAt k
theorem Nums.set {w : World} {B g n : Nat} {L : List Nat} (h : Nums w B g n L) (k v : Nat) : Nums (w.setCell ⟨g, k, none⟩ (.int .i64 (v : Nat))) B g n (L.set k v) := by
  have := (h.stored k (.int .i64 (v : Nat))).1
  rw [zs_set, up_set] at this
  exact this
theorem Nums.other {w : World} {B g n : Nat} {L : List Nat} (h : Nums w B g n L) {a : Addr} (ha : a.block ≠ g) (v : Value) : Nums (w.setCell a v) B g n L :=
  ownsRow_setCell_other h (by simpa [Value.ownBlock] using fun e => ha e.symm) v
theorem Nums.below {w w' : World} {B g n : Nat} {L : List Nat} (h : Nums w B g n L) (hb : Below w.heap.size w w') : Nums w' B g n L := own_below h hb
theorem Nums.rd {w : World} {B g n : Nat} {L : List Nat} (h : Nums w B g n L) : Rd w (some ⟨g, 0, none⟩) (zs (up L)) := Rd.of_own h
theorem getD_set_self {L : List Nat} {k : Nat} (v : Nat) (h : k < L.length) : (L.set k v).getD k 0 = v := by simp [List.getD_eq_getElem?_getD, h]
theorem getD_set_other {L : List Nat} {k j : Nat} (v : Nat) (h : k ≠ j) : (L.set k v).getD j 0 = L.getD j 0 := by simp [List.getD_eq_getElem?_getD, List.getElem?_set_ne h]
theorem ext_getD {L M : List Nat} (hl : L.length = M.length) (h : ∀ i, i < L.length → L.getD i 0 = M.getD i 0) : L = M := by
  apply List.ext_getElem hl
  intro i h1 h2
  have := h i h1
  simpa [List.getD_eq_getElem?_getD, h1, h2] using this

theorem two_new (w : World) {a b : Nat} {A B : Array Value} (ha : A.size = a) (hA : A.toList = zs (up (List.replicate a 0))) (hb : B.size = b) (hB : B.toList = zs (up (List.replicate b 0))) (ma : a ≤ 512) (mb : b ≤ 512) :
    Nums ((w.alloc (.cells A 3)).alloc (.cells B 3)).drew w.heap.size w.heap.size a (List.replicate a 0) ∧ Nums ((w.alloc (.cells A 3)).alloc (.cells B 3)).drew w.heap.size (w.heap.size + 1) b (List.replicate b 0) ∧
      Below w.heap.size w ((w.alloc (.cells A 3)).alloc (.cells B 3)).drew := by
  have b1 : Below w.heap.size w (w.alloc (.cells A 3)) := (Below.refl _ _).alloc (Nat.le_refl _) _
  have b2 : Below (w.alloc (.cells A 3)).heap.size (w.alloc (.cells A 3)) ((w.alloc (.cells A 3)).alloc (.cells B 3)) := (Below.refl _ _).alloc (Nat.le_refl _) _
  have b3 : Below ((w.alloc (.cells A 3)).alloc (.cells B 3)).heap.size ((w.alloc (.cells A 3)).alloc (.cells B 3)) ((w.alloc (.cells A 3)).alloc (.cells B 3)).drew := Below.drew (Below.refl _ _)
  have r1 := World.ownsRow_lit (e := 3) (base := w.heap.size) (size := 1) w A a (Nat.le_refl _) (by unfold maxLen; omega) (by omega)
  have r2 := World.ownsRow_lit (e := 3) (base := w.heap.size) (size := 1) (w.alloc (.cells A 3)) B b (by simp) (by unfold maxLen; omega) (by omega)
  rw [hA] at r1
  rw [hB] at r2
  have e : (w.alloc (.cells A 3)).heap.size = w.heap.size + 1 := by simp
  rw [e] at r2
  exact ⟨own_below (own_below r1 b2) b3, own_below r2 b3, b1.trans ((b2.mono b1.size).trans (b3.mono (Nat.le_trans b1.size b2.size)))⟩
/-- the rows at work -/
def Won (K : Keys) (j : Nat) (W : List Nat) : Prop := ∀ x, j < x → x < 2 * K.length → W.getD x 0 = wn K x
def Lost (K : Keys) (j : Nat) (T : List Nat) : Prop := ∀ x, j < x → x < K.length → T.getD x 0 = lo K x
theorem build_of {K : Keys} {T : List Nat} (hl : T.length = K.length) (h0 : T.getD 0 0 = wn K 1) (h : Lost K 0 T) : T = build K := by
  refine ext_getD (by rw [hl, build_length]) (fun i hi => ?_)
  rw [build_get K i (by omega)]
  by_cases e : i = 0
  · subst e; rw [if_pos rfl]; exact h0
  · rw [if_neg e]; exact h i (by omega) (by omega)

/-- one node is written -/
theorem node_rows {w wr W1 : World} {B gW gT n j v u : Nat} {L T : List Nat} (hne : gW ≠ gT) (hW : Nums wr B gW (2 * n) L) (hT : Nums wr B gT n T) (hB : Below B w wr) (hb : Below wr.heap.size wr W1) (hj : j < n) :
    (W1.cell? ⟨gW, j, none⟩ = some (.int .i64 (L.getD j 0 : Nat)) ∧ W1.frozen? ⟨gW, j, none⟩ = false ∧ W1.cell? ⟨gT, j, none⟩ = some (.int .i64 (T.getD j 0 : Nat)) ∧ W1.frozen? ⟨gT, j, none⟩ = false) ∧
    Nums ((W1.setCell ⟨gW, j, none⟩ (.int .i64 (v : Nat))).setCell ⟨gT, j, none⟩ (.int .i64 (u : Nat))) B gW (2 * n) (L.set j v) ∧
    Nums ((W1.setCell ⟨gW, j, none⟩ (.int .i64 (v : Nat))).setCell ⟨gT, j, none⟩ (.int .i64 (u : Nat))) B gT n (T.set j u) ∧
    Below B w ((W1.setCell ⟨gW, j, none⟩ (.int .i64 (v : Nat))).setCell ⟨gT, j, none⟩ (.int .i64 (u : Nat))) := by
  have h1 := hW.below hb
  have h2 := hT.below hb
  have h3 : Below B w W1 := hB.trans (hb.mono (Nat.le_of_lt (Nat.lt_of_le_of_lt hW.lt.1 hW.lt.2)))
  exact ⟨⟨h1.cell (by omega), h1.free j, h2.cell hj, h2.free j⟩, (h1.set j v).other (a := ⟨gT, j, none⟩) (fun e => hne e.symm) _, (h2.other (a := ⟨gW, j, none⟩) hne _).set j u, below_put (below_put h3 (a := ⟨gW, j, none⟩) h1.lt.1 _) (a := ⟨gT, j, none⟩) h2.lt.1 _⟩
theorem won_step {K : Keys} {j : Nat} {L : List Nat} (h : Won K j L) (hl : j < L.length) : Won K (j - 1) (L.set j (wn K j)) := fun x h1 h2 => by
  by_cases e : x = j
  · subst e; rw [getD_set_self _ hl]
  · rw [getD_set_other _ (fun h => e h.symm)]; exact h x (by omega) h2
theorem lost_step {K : Keys} {j : Nat} {L : List Nat} (h : Lost K j L) (hl : j < L.length) : Lost K (j - 1) (L.set j (lo K j)) := fun x h1 h2 => by
  by_cases e : x = j
  · subst e; rw [getD_set_self _ hl]
  · rw [getD_set_other _ (fun h => e h.symm)]; exact h x (by omega) h2

section
variable {K : Keys} {p : Option Addr} {c : Nat} {w : World}
set_option maxHeartbeats 4000000 in
set_option maxRecDepth 100000 in
theorem build_any (h1 : 1 ≤ K.length) (h2 : K.length ≤ 256) (h : RecsAt w p K) :
    Calls Try.prog 26 #[.slice p K.length c] w fun e w' => ∃ g, e = .returned (.slice (some ⟨g, 0, none⟩) K.length K.length) ∧ Nums w' w.heap.size g K.length (build K) ∧ Below w.heap.size w w' := by
  obtain ⟨i0, hi, hz0, hz1, hz2⟩ := info_parts info_int
  obtain ⟨n, hn⟩ : ∃ n, n = K.length := ⟨_, rfl⟩
  have HR : Hid (∀ W, Below w.heap.size w W → ∀ a b, a < n → b < n → Calls Try.prog 40 #[.slice p n c, .int .i64 a, .int .i64 b] W fun e w' => e = .returned (.bool (bt K a b)) ∧ ∃ k, w' = W.drewN k) :=
    Lib.hid fun W hW a b ha hb => by rw [hn] at ha hb ⊢; exact beats_any ha hb (h.below hW)
  rw [← hn] at h1 h2 ⊢
  obtain ⟨M, hM⟩ : ∃ M : Nat → Array Value, ∀ m, (M m).size = m ∧ (M m).toList = zs (up (List.replicate m 0)) ∧ (m ≤ 512 → ∀ W : World, (Instr.makeSlice 23 (.int .i64 (m : Int)) (.int .i64 (m : Int))).run Try.prog W = .ok (.slice (some ⟨W.heap.size, 0, none⟩) m m) (W.alloc (.cells (M m) 3))) := by
    refine ⟨fun m => madeCells (Value.int .i64 0).cells (m * 1), fun m => ⟨by rw [size_madeCells]; omega, up_zeros m, fun hm W => ?_⟩⟩
    have := run_make (P := Try.prog) W 23 3 i0 (.int .i64 0) Try.underlying23 hi hz0 .i64 .i64 (m : Int) (m : Int) (by omega) (by omega) (by rw [hz2]; omega) (by omega)
    rw [hz1] at this
    simpa using this
  have hmk1 := (hM n).2.2 (by omega)
  have hmk2 : ∀ W : World, (Instr.makeSlice 23 (.int .i64 (2 * (n : Int))) (.int .i64 (2 * (n : Int)))).run Try.prog W = .ok (.slice (some ⟨W.heap.size, 0, none⟩) (2 * n) (2 * n)) (W.alloc (.cells (M (2 * n)) 3)) := by
    have := (hM (2 * n)).2.2 (by omega)
    rwa [show ((2 * n : Nat) : Int) = 2 * (n : Int) by omega] at this
  have HM := Lib.hid hM; have HN := Lib.hid hn
  clear hn h hM hi hz0 hz1 hz2
  go_enter Try.func26, Try.ntmps26
  go_upto_region 2 with fail
  go_cut [4, 5] from 12 to 16 (fun v4 v5 wx => ∃ gW gT, v4 = .slice (some ⟨gW, 0, none⟩) (2 * n) (2 * n) ∧ v5 = .slice (some ⟨gT, 0, none⟩) n n ∧ gW ≠ gT ∧ Nums wx w.heap.size gW (2 * n) (List.replicate (2 * n) 0) ∧ Nums wx w.heap.size gT n (List.replicate n 0) ∧ Below w.heap.size w wx)
  case first =>
    have T1 := Lib.hid (two_new w (HM.out n).1 (HM.out n).2.1 (HM.out (2 * n)).1 (HM.out (2 * n)).2.1 (by omega) (by omega))
    have T2 := Lib.hid (two_new w (HM.out (2 * n)).1 (HM.out (2 * n)).2.1 (HM.out n).1 (HM.out n).2.1 (by omega) (by omega))
    clear HM
    go_region
    · go_wp2_with fail
      go_meet
      first | exact ⟨_, _, rfl, rfl, by omega, T1.out.2.1, T1.out.1, T1.out.2.2⟩ | exact ⟨_, _, rfl, rfl, by omega, T2.out.1, T2.out.2.1, T2.out.2.2⟩
    · go_wp2_with fail
      go_meet
      first | exact ⟨_, _, rfl, rfl, by omega, T1.out.2.1, T1.out.1, T1.out.2.2⟩ | exact ⟨_, _, rfl, rfl, by omega, T2.out.1, T2.out.2.1, T2.out.2.2⟩
  case rest =>
    clear hmk1 hmk2 HM
    obtain ⟨gW, gT, rfl, rfl, hne, hW, hT, hB⟩ := hcut
    have RW := Lib.hid hW; have RT := Lib.hid hT; have RB := Lib.hid hB
    clear hW hT hB
    go_wp2_with fail
    go_loopw [6, 19] (fun _ i wr => ∃ (k : Nat) (L : List Nat), k ≤ n ∧ i = .int .i64 k ∧ (∀ x, n ≤ x → x < n + k → L.getD x 0 = x - n) ∧ Nums wr w.heap.size gW (2 * n) L ∧ Nums wr w.heap.size gT n (List.replicate n 0) ∧ Below w.heap.size w wr) (fun _ i _ => n - (intOf i).toNat)
    case atStart => exact ⟨0, _, by omega, rfl, fun x h1 h2 => by omega, RW.out, RT.out, RB.out⟩
    case round =>
      obtain ⟨k, L, hk, rfl, hL, hW, hT, hB⟩ := hrel
      by_cases hlt : k < n
      · have hW2 := hW.set (n + k) k
        have hT2 := hT.other (a := ⟨gW, n + k, none⟩) hne (.int .i64 (k : Nat))
        have hB2 := below_put hB (a := ⟨gW, n + k, none⟩) hW.lt.1 (.int .i64 (k : Nat))
        have c1 := hW.cell (k := n + k) (by omega)
        have f1 := hW.free (n + k)
        have l1 := hW.len
        have F : Hid (∀ x, n ≤ x → x < n + (k + 1) → (L.set (n + k) k).getD x 0 = x - n) := Lib.hid (by
          intro x h3 h4
          by_cases e : x = n + k
          · subst e
            rw [getD_set_self k (by omega)]; omega
          · rw [getD_set_other k (by omega)]; exact hL x h3 (by omega))
        have A1 := Lib.hid hW2; have A2 := Lib.hid hT2; have A3 := Lib.hid hB2
        have e1 : ((n : Int) + (k : Int)).toNat = n + k := by omega
        clear hL hW hT hB hW2 hT2 hB2 l1
        go_wp2_with fail
        go_roundw
        case rel => exact ⟨k + 1, _, by omega, by go_num, F.out, A1.out, A2.out, A3.out⟩
        case measure => simp [intOf]; omega
      · obtain rfl : k = n := by omega
        have hWn : Won K (k - 1) L := fun x h3 h4 => by
          have e := HN.out
          rw [hL x (by omega) (by omega), wn_leaf (by omega), e]
        have hTn : Lost K (k - 1) (List.replicate k 0) := fun x h3 h4 => by have e := HN.out; omega
        have HWN := Lib.hid hWn; have HTN := Lib.hid hTn; have RW2 := Lib.hid hW; have RT2 := Lib.hid hT; have RB2 := Lib.hid hB
        clear hL hW hT hB hWn hTn RW RT RB
        have k1 : ((k : Int) - 1) = ((k - 1 : Nat) : Int) := by omega
        go_wp2_with fail
        go_loopw [7, 8, 9] (fun i _ _ wr => ∃ (j : Nat) (L T : List Nat), j < k ∧ i = .int .i64 j ∧ Won K j L ∧ Lost K j T ∧ Nums wr w.heap.size gW (2 * k) L ∧ Nums wr w.heap.size gT k T ∧ Below w.heap.size w wr) (fun i _ _ _ => (intOf i).toNat)
        case atStart => exact ⟨k - 1, L, _, by omega, by go_num, HWN.out, HTN.out, RW2.out, RT2.out, RB2.out⟩
        case round =>
          obtain ⟨j, L, T, hj, rfl, hL, hT, hrW, hrT, hB⟩ := hrel
          have j0 : (0 : Int) ≤ (j : Int) := by omega
          by_cases hj1 : 1 ≤ j
          · have hn2 : j < K.length := by rw [← HN.out]; exact hj
            obtain ⟨a, ha⟩ : ∃ a, a = wn K (2 * j) := ⟨_, rfl⟩
            obtain ⟨b, hb⟩ : ∃ b, b = wn K (2 * j + 1) := ⟨_, rfl⟩
            have ak : a < k := by rw [ha, HN.out]; exact wn_lt (by omega) (by omega)
            have bk : b < k := by rw [hb, HN.out]; exact wn_lt (by omega) (by omega)
            have c1 := hrW.cell (k := 2 * j) (by omega)
            have c2 := hrW.cell (k := 2 * j + 1) (by omega)
            rw [hL _ (by omega) (by rw [← HN.out]; omega), ← ha] at c1
            rw [hL _ (by omega) (by rw [← HN.out]; omega), ← hb] at c2
            have hnd := wn_node (K := K) hj1 hn2
            have hlo : lo K j = if bt K (wn K (2 * j + 1)) (wn K (2 * j)) = true then wn K (2 * j) else wn K (2 * j + 1) := rfl
            rw [← ha, ← hb] at hnd hlo
            obtain ⟨t, ht⟩ : ∃ t, t = bt K b a := ⟨_, rfl⟩
            rw [← ht] at hnd hlo
            have HC : Hid (∀ z, Calls Try.prog 40 #[.slice p k c, .int .i64 b, .int .i64 a] (wr.drewN z) fun e w' => e = .returned (.bool t) ∧ ∃ m, w' = (wr.drewN z).drewN m) :=
              Lib.hid fun z => by have := HR.out (wr.drewN z) (below_drewN hB z) b a bk ak; rwa [← ht] at this
            have hlW := hrW.len
            have hlT := hrT.len
            have q1 := hrW.cell (k := j) (by omega)
            have q2 := hrW.free j
            have q3 := hrT.cell (k := j) hj
            have q4 := hrT.free j
            have F1 := Lib.hid (won_step hL (by omega))
            have F2 := Lib.hid (lost_step hT (by omega))
            have ND : Hid (∀ m v u, _) := Lib.hid (fun m v u => node_rows (v := v) (u := u) hne hrW hrT hB (below_drewN (Below.refl _ _) m) hj)
            have e1 : (2 * (j : Int)).toNat = 2 * j := by omega
            have e2 : (2 * (j : Int) + 1).toNat = 2 * j + 1 := by omega
            have j1 : (1 : Int) ≤ (j : Int) := by omega
            have j2 : (j : Int) < (k : Int) := by omega
            have j3 : (j : Int) < 2 * (k : Int) := by omega
            have hne2 : ¬ (gT = gW) := fun e => hne e.symm
            clear hL hT hrW hrT hB ha hb ht hlW hlT hn2 hj1
            cases t with
            | true =>
              simp only [if_true] at hnd hlo
              have hnd := Lib.hid hnd; have hlo := Lib.hid hlo
              go_wp2_with fail
              go_quiet (fail)
              go_wp2_with fail
              refine (HC.out _).mono ?_
              rintro e w' ⟨rfl, m, rfl⟩
              have nd := ND.out (nq + m) b a
              obtain ⟨_, n1, n2, n3⟩ := nd
              have N1 := Lib.hid n1; have N2 := Lib.hid n2; have N3 := Lib.hid n3
              clear n1 n2 n3 c1 c2
              go_wp2_with fail
              go_roundw
              case rel => exact ⟨j - 1, _, _, by omega, by go_num, by rw [hnd.out] at F1; exact F1.out, by rw [hlo.out] at F2; exact F2.out, N1.out, N2.out, N3.out⟩
              case measure => simp [intOf]; omega
            | false =>
              simp only [Bool.false_eq_true, if_false] at hnd hlo
              have hnd := Lib.hid hnd; have hlo := Lib.hid hlo
              go_wp2_with fail
              go_quiet (fail)
              go_wp2_with fail
              refine (HC.out _).mono ?_
              rintro e w' ⟨rfl, m, rfl⟩
              have nd := ND.out (nq + m) a b
              obtain ⟨_, n1, n2, n3⟩ := nd
              have N1 := Lib.hid n1; have N2 := Lib.hid n2; have N3 := Lib.hid n3
              clear n1 n2 n3 c1 c2
              go_wp2_with fail
              go_roundw
              case rel => exact ⟨j - 1, _, _, by omega, by go_num, by rw [hnd.out] at F1; exact F1.out, by rw [hlo.out] at F2; exact F2.out, N1.out, N2.out, N3.out⟩
              case measure => simp [intOf]; omega
          · obtain rfl : j = 0 := by omega
            have c1 := hrW.cell (k := 1) (by omega)
            rw [hL 1 (by omega) (by rw [← HN.out]; omega)] at c1
            have c0 := hrT.cell (k := 0) (by omega)
            have f0 := hrT.free 0
            have r1 := hrT.set 0 (wn K 1)
            have b1 := below_put hB (a := ⟨gT, 0, none⟩) hrT.lt.1 (.int .i64 (wn K 1 : Nat))
            have hl := hrT.len
            have e : T.set 0 (wn K 1) = build K := build_of (by rw [List.length_set, hl, HN.out]) (getD_set_self _ (by omega)) (fun x h1 h2 => by rw [getD_set_other _ (by omega)]; exact hT x h1 h2)
            rw [e] at r1
            have R1 := Lib.hid r1; have B1 := Lib.hid b1
            have k2 : (1 : Int) < 2 * (k : Int) := by omega
            have k3 : (0 : Int) < (k : Int) := by omega
            clear hL hT hrW hrT hB hj1 r1 b1 hl e
            go_wp2_with fail
            go_ret
            exact ⟨gT, rfl, R1.out, B1.out⟩
end
end Go.Proofs.Ythkgdjclgphodaa.Ls
