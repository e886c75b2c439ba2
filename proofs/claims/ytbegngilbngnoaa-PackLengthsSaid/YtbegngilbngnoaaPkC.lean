/- The document's put. -/
import Derived.Test.YtbegngilbngnoaaPkA
namespace Go.Proofs.Ytbegngilbngnoaa.Pk
open Go.RowKit Go.Lib Rw Ls Od _root_.Go.Proofs.Ytbegngilbngnoaa.Nm

theorem info_item : (Try.prog.info? 45).map (fun i => (i.zero, i.size, i.bytes)) = some (some (.agg #[.int .u64 0, .slice none 0 0]), 2, 32) := by kernel_rfl
/-- the cells of items: of each its weight, and the slice that it has -/
def iv (xs : List (Nat × Value)) : List Value := xs.flatMap fun x => [.int .u64 (x.1 : Int), x.2]
theorem iv_nil : iv [] = [] := rfl
theorem iv_cons (x : Nat × Value) (xs : List (Nat × Value)) : iv (x :: xs) = .int .u64 (x.1 : Int) :: x.2 :: iv xs := rfl
theorem iv_app (xs ys : List (Nat × Value)) : iv (xs ++ ys) = iv xs ++ iv ys := by simp [iv]
theorem iv_length : ∀ xs : List (Nat × Value), (iv xs).length = xs.length * 2
  | [] => rfl
  | x :: xs => by rw [iv_cons, List.length_cons, List.length_cons, iv_length xs, List.length_cons]; omega
theorem iv_drop : ∀ (xs : List (Nat × Value)) (k : Nat), iv (xs.drop k) = (iv xs).drop (k * 2)
  | [], k => by simp [iv]
  | x :: xs, 0 => by simp
  | x :: xs, k + 1 => by rw [List.drop_succ_cons, iv_drop xs k, iv_cons, show (k + 1) * 2 = k * 2 + 1 + 1 by omega, List.drop_succ_cons, List.drop_succ_cons]
theorem iv_take : ∀ (xs : List (Nat × Value)) (k : Nat), iv (xs.take k) = (iv xs).take (k * 2)
  | [], k => by simp [iv]
  | x :: xs, 0 => by simp [iv]
  | x :: xs, k + 1 => by rw [List.take_succ_cons, iv_cons, iv_take xs k, iv_cons, show (k + 1) * 2 = k * 2 + 1 + 1 by omega, List.take_succ_cons, List.take_succ_cons]
theorem iv_at (xs : List (Nat × Value)) (k : Nat) (h : k < xs.length) : (iv xs).getD (k * 2) (.bool false) = .int .u64 (xs[k].1 : Int) ∧ (iv xs).getD (k * 2 + 1) (.bool false) = xs[k].2 := by
  have h1 := iv_drop xs k
  rw [List.drop_eq_getElem_cons h, iv_cons] at h1
  have h2 : ∀ j, (iv xs).getD (k * 2 + j) (.bool false) = ((iv xs).drop (k * 2)).getD j (.bool false) := fun j => by simp [List.getD_eq_getElem?_getD]
  refine ⟨?_, ?_⟩
  · have := h2 0
    rw [Nat.add_zero] at this
    rw [this, ← h1]; rfl
  · rw [h2 1, ← h1]; rfl
/-- one-cell slices -/
def Sl (xs : List (Nat × Value)) : Prop := ∀ x ∈ xs, x.2.oneCell' = true
theorem iv_ones {xs : List (Nat × Value)} (h : Sl xs) : ∀ u ∈ iv xs, u.oneCell' = true := fun u hu => by
  simp only [iv, List.mem_flatMap, List.mem_cons, List.not_mem_nil, or_false] at hu
  obtain ⟨x, hx, rfl | rfl⟩ := hu
  · rfl
  · exact h x hx
theorem put_at {α : Type} {f : α → Nat} {x : α} : ∀ {l : List α} {a : Nat}, a ≤ l.length → (∀ j (h : j < l.length), j < a → f l[j] ≤ f x) → (∀ j (h : j < l.length), a ≤ j → f x < f l[j]) → put f x l = l.take a ++ x :: l.drop a
  | [], a, h, _, _ => by simp [put]
  | y :: l, 0, h, _, h2 => by
    have := h2 0 (by simp) (Nat.le_refl _)
    rw [put, if_neg (by simpa using this)]; rfl
  | y :: l, a + 1, h, h1, h2 => by
    have := h1 0 (by simp) (by omega)
    rw [put, if_pos (by simpa using this), put_at (l := l) (a := a) (by simpa using h) (fun j hj hja => h1 (j + 1) (Nat.succ_lt_succ hj) (by omega)) (fun j hj hja => h2 (j + 1) (Nat.succ_lt_succ hj) (by omega))]
    rfl
theorem put_length {α : Type} (f : α → Nat) (x : α) (l : List α) : (put f x l).length = l.length + 1 := (put_perm f x l).length_eq
/-- items in new memory -/
def ItP (w : World) (xs : List (Nat × Value)) (e : Ending) (w' : World) : Prop := ∃ (g cap : Nat), e = .returned (.slice (some ⟨g, 0, none⟩) xs.length cap) ∧ xs.length ≤ cap ∧ Rd w' (some ⟨g, 0, none⟩) (iv xs) ∧ w.heap.size ≤ g ∧ Below w.heap.size w w'
theorem rd_two {w : World} {g : Nat} {u v : Value} (h : Rd w (some ⟨g, 0, none⟩) [u, v]) : w.cell? ⟨g, 0, none⟩ = some u ∧ w.cell? ⟨g, 1, none⟩ = some v := by
  obtain ⟨b, e, _, h0⟩ := h 0 (by simp)
  obtain ⟨b', e', _, h1⟩ := h 1 (by simp)
  cases e; cases e'
  rw [Addr.add_lit, Nat.zero_add] at h0 h1
  exact ⟨h0, h1⟩
set_option maxHeartbeats 16000000 in
set_option maxRecDepth 100000 in
theorem rput_any (xs : List (Nat × Value)) (hu : Up Prod.fst xs) (hs : Sl xs) (wt : Nat) (v : Value) (hv : v.oneCell' = true) (g n c : Nat) (w : World) (hn : n = xs.length) (hl : n ≤ 1000000) (hc : n ≤ c) (hr : Rd w (some ⟨g, 0, none⟩) (iv xs)) (hgw : g < w.heap.size) :
    Calls Try.prog 22 #[.slice (some ⟨g, 0, none⟩) n c, .agg #[.int .u64 (wt : Int), v]] w (ItP w (put Prod.fst (wt, v) xs)) := by
  obtain ⟨i0, hi0, hz0, hz1, hz2⟩ := info_parts info_item
  obtain ⟨W2, hW2⟩ : ∃ W2, W2 = w.alloc (.cells #[.int .u64 (wt : Int), v] 45) := ⟨_, rfl⟩
  have hb : Below w.heap.size w W2 := by rw [hW2]; exact (Below.refl _ _).alloc (Nat.le_refl _) _
  have xb : Rd W2 (some ⟨w.heap.size, 0, none⟩) [.int .u64 (wt : Int), v] := by rw [hW2]; exact Rd.new w #[.int .u64 (wt : Int), v] _
  have HN := Lib.hid hn; have HB := Lib.hid hb; have XB := Lib.hid xb; have HW2 := Lib.hid hW2; have HU := Lib.hid hu; have HSL := Lib.hid hs
  have HR := Lib.hid (hr.below hb)
  have HS2 : Hid (W2.heap.size = w.heap.size + 1) := Lib.hid (by rw [hW2]; simp)
  clear hn hb xb hW2 hr hu hs
  go_enter Try.func22, Try.ntmps22
  go_wp2_with fail
  rw [← HW2.out]
  go_loopw [5] (fun i wr => ∃ k : Nat, k ≤ n ∧ i = .int .i64 k ∧ Hid (∀ j (h : j < xs.length), k ≤ j → wt < (xs[j]).1) ∧ Hid (Below W2.heap.size W2 wr)) (fun i _ => (intOf i).toNat)
  case atStart => exact ⟨n, Nat.le_refl _, rfl, Lib.hid (fun j h hj => by have := HN.out; omega), Lib.hid (Below.refl _ _)⟩
  case round =>
    obtain ⟨k, hk, rfl, HLO, HBr⟩ := hrel
    have x1 := XB.out.below HBr.out
    have v0 : wr.cell? ⟨w.heap.size, 0, none⟩ = some (.int .u64 (wt : Int)) := (rd_two x1).1
    have v1 : wr.cell? ⟨w.heap.size, 1, none⟩ = some v := (rd_two x1).2
    have r1 := HR.out.below HBr.out
    by_cases hgo : ∃ h : 1 ≤ k ∧ k - 1 < xs.length, wt < (xs[k - 1]'h.2).1
    · obtain ⟨⟨h1, h2⟩, h3⟩ := hgo
      obtain ⟨K, rfl⟩ : ∃ K, k = K + 1 := ⟨k - 1, by omega⟩
      have hK : K < xs.length := by simpa using h2
      obtain ⟨a, e, _, d0⟩ := r1 (K * 2) (by rw [iv_length]; omega)
      rw [(iv_at xs K hK).1] at d0
      cases e
      rw [Addr.add_lit, Nat.zero_add] at d0
      obtain ⟨y, hy⟩ : ∃ y, y = (xs[K]).1 := ⟨_, rfl⟩
      have hwy : wt < y := by rw [hy]; simpa using h3
      rw [← hy] at d0
      have ek : (((K + 1 : Nat) : Int) - 1) = (K : Int) := by omega
      have wk : IntKind.i64.wrap ((K : Int)) = (K : Int) := IntWalk.i64_in _ (by omega)
      have m0 : (0 : Int) ≤ (K : Int) := by omega
      have m1 : (K : Int) < (n : Int) := by omega
      have t0 : decide ((0 : Int) < ((K + 1 : Nat) : Int)) = true := decide_eq_true (by omega)
      have t1 : decide (0 < K + 1) = true := decide_eq_true (by omega)
      have t2 : decide ((wt : Int) < (y : Int)) = true := decide_eq_true (by omega)
      have t3 : decide (wt < y) = true := decide_eq_true hwy
      have HLO2 : Hid (∀ j (h : j < xs.length), K ≤ j → wt < (xs[j]).1) := Lib.hid (fun j h hj => by
        rcases Nat.lt_or_ge K j with h4 | h4
        · exact HLO.out j h (by omega)
        · obtain rfl : j = K := by omega
          rw [← hy]; exact hwy)
      clear h1 h2 h3 hy hwy x1 r1
      go_wp2_with fail
      go_quiet (fail)
      go_wp2_with fail
      go_roundw
      case rel => exact ⟨K, by omega, by go_num, HLO2, Lib.hid (below_drewN HBr.out _)⟩
      case measure => simp [intOf]
    · have hp : put Prod.fst (wt, v) xs = xs.take k ++ (wt, v) :: xs.drop k := put_at (by rw [← HN.out]; exact hk) (fun j h hj => by
        rcases Nat.lt_or_ge (k - 1) xs.length with h4 | h4
        · have h5 : ¬ wt < (xs[k - 1]).1 := fun h6 => hgo ⟨⟨by omega, h4⟩, h6⟩
          have h6 : (xs[j]).1 ≤ (xs[k - 1]).1 := by
            rcases Nat.lt_or_ge j (k - 1) with h7 | h7
            · exact (List.pairwise_iff_getElem.1 HU.out) j (k - 1) h h4 h7
            · have : j = k - 1 := by omega
              subst this; exact Nat.le_refl _
          show (xs[j]).1 ≤ wt
          omega
        · have := HN.out; omega) (fun j h hj => HLO.out j h hj)
      have HP := Lib.hid hp
      have hor : (k = 0) ∨ ∃ y K : Nat, k = K + 1 ∧ (K : Int) < (n : Int) ∧ wr.cell? ⟨g, K * 2, none⟩ = some (.int .u64 (y : Int)) ∧ y ≤ wt := by
        rcases Nat.eq_zero_or_pos k with h | h
        · exact .inl h
        · have hK : k - 1 < xs.length := by have := HN.out; omega
          obtain ⟨a, e, _, d0⟩ := r1 ((k - 1) * 2) (by rw [iv_length]; omega)
          rw [(iv_at xs (k - 1) hK).1] at d0
          cases e
          rw [Addr.add_lit, Nat.zero_add] at d0
          exact .inr ⟨_, k - 1, by omega, by have := HN.out; omega, d0, Nat.le_of_not_lt fun h6 => hgo ⟨⟨h, hK⟩, h6⟩⟩
      clear hgo hp x1 r1
      have hkn : k ≤ n := hk
      have hor2 : (decide ((0 : Int) < (k : Int)) = false ∧ decide (0 < k) = false) ∨ ∃ y K : Nat, ((k : Int) - 1) = (K : Int) ∧ IntKind.i64.wrap ((K : Int)) = (K : Int) ∧ (0 : Int) ≤ (K : Int) ∧ (K : Int) < (n : Int) ∧ wr.cell? ⟨g, K * 2, none⟩ = some (.int .u64 (y : Int)) ∧ decide ((0 : Int) < (k : Int)) = true ∧ decide (0 < k) = true ∧ decide ((wt : Int) < (y : Int)) = false ∧ decide (wt < y) = false := by
        rcases hor with h | ⟨y, K, h1, h2, h3, h4⟩
        · subst h; exact .inl ⟨by decide, by decide⟩
        · exact .inr ⟨y, K, by omega, IntWalk.i64_in _ (by omega), by omega, h2, h3, decide_eq_true (by omega), decide_eq_true (by omega), decide_eq_false (by omega), decide_eq_false (by omega)⟩
      clear hor
      have j0 : (0 : Int) ≤ (k : Int) := by omega
      have j1 : (k : Int) ≤ (c : Int) := by omega
      have j2 : (k : Int) ≤ (n : Int) := by omega
      rcases hor2 with ⟨t0, t1⟩ | ⟨y, K, ek, wk, m0, m1, d0, t0, t1, t2, t3⟩
      all_goals
        go_wp2_with fail
        go_quiet (fail)
        go_wp2_with fail
        obtain ⟨V, hV⟩ : ∃ V, V = wr.drewN nq := ⟨_, rfl⟩
        have x2 := (XB.out.below HBr.out).below (below_drewN (Below.refl _ wr) nq)
        have e2 := (HR.out.below HBr.out).below (below_drewN (Below.refl _ wr) nq)
        have b2 := HBr.out.trans ((below_drewN (Below.refl _ wr) nq).mono HBr.out.size)
        rw [← hV] at x2 e2 b2 ⊢
        have hs2 := HS2.out
        have v0 : V.cell? ⟨w.heap.size, 0, none⟩ = some (.int .u64 (wt : Int)) := (rd_two x2).1
        have v1 : V.cell? ⟨w.heap.size, 1, none⟩ = some v := (rd_two x2).2
        have lV : w.heap.size < V.heap.size := by have := b2.size; omega
        obtain ⟨BBp, hBBp⟩ : ∃ BBp : World → Prop, BBp = fun W => Below (w.heap.size + 1) V W := ⟨_, rfl⟩
        have H0 : Hid (BBp V) := Lib.hid (by rw [hBBp]; exact Below.refl _ _)
        have HBs : Hid (∀ W, BBp W → w.heap.size + 1 ≤ W.heap.size) := Lib.hid (fun W hh => by rw [hBBp] at hh; have := hh.size; omega)
        have HDd : Hid (∀ W, BBp W → BBp W.drew) := Lib.hid (fun W hh => by rw [hBBp] at hh ⊢; exact hh.drew)
        have HAl : Hid (∀ W o, BBp W → BBp (W.alloc o)) := Lib.hid (fun W o hh => by
          have := HBs.out W hh
          rw [hBBp] at hh ⊢
          exact hh.alloc this o)
        have HTr : Hid (∀ W W', BBp W → Below (w.heap.size + 1) W W' → BBp W') := Lib.hid (fun W W' hh hb => by rw [hBBp] at hh ⊢; exact hh.trans hb)
        have HCl : Hid (∀ W, BBp W → W.cell? ⟨w.heap.size, 0, none⟩ = some (.int .u64 (wt : Int)) ∧ W.cell? ⟨w.heap.size, 1, none⟩ = some v ∧ w.heap.size < W.heap.size) := Lib.hid (fun W hh => by
          have := HBs.out W hh
          rw [hBBp] at hh
          exact ⟨by rw [hh.cell (p := ⟨w.heap.size, 0, none⟩) (Nat.lt_succ_self _)]; exact v0, by rw [hh.cell (p := ⟨w.heap.size, 1, none⟩) (Nat.lt_succ_self _)]; exact v1, by omega⟩)
        have HRall : ∀ W, BBp W → Rd W (some ⟨g, 0, none⟩) (iv xs) := fun W hh i hi => by
          rw [hBBp] at hh
          obtain ⟨a, e, _, hc⟩ := e2 i hi
          cases e
          exact ⟨_, rfl, Nat.lt_of_lt_of_le (show g < V.heap.size by omega) hh.size, by rw [hh.cell (show _ < w.heap.size + 1 by rw [add_block]; show g < _; omega)]; exact hc⟩
        have HRp : Hid (∀ W, BBp W → Rd W (some ⟨g, 0, none⟩) (iv (xs.take k))) := Lib.hid (fun W hh => by rw [iv_take]; exact (HRall W hh).take _)
        have HRs0 : ∀ W, BBp W → Rd W (if c = k then some (⟨g, 0, none⟩ : Addr) else some ⟨g, k * 2, none⟩) (iv (xs.drop k)) := fun W hh => by
          have hr := HRall W hh
          by_cases hkn : k < n
          · rw [if_neg (by omega)]
            have h3 := hr.cut (k * 2) (by rw [iv_length, ← HN.out]; omega)
            rw [← iv_drop] at h3
            simpa [Addr.add_lit] using h3
          · rw [List.drop_eq_nil_of_le (by rw [← HN.out]; omega)]
            exact Rd.nil _ _
        obtain ⟨A3, hA3⟩ : ∃ A3, (if c = k then some (⟨g, 0, none⟩ : Addr) else some ⟨g, k * 2, none⟩) = A3 := ⟨_, rfl⟩
        rw [hA3] at HRs0
        have HRs := Lib.hid HRs0
        have HFin : Hid (∀ W, BBp W → Below w.heap.size w W) := Lib.hid (fun W hh => by
          rw [hBBp] at hh
          exact HB.out.trans ((b2.trans (hh.mono (by omega))).mono (by omega)))
        have HEm : Hid (∀ W g', BBp W → g' = W.heap.size → (W.alloc (.cells #[] 45)).ownsRow (w.heap.size + 1) 45 2 (.slice (some ⟨g', 0, none⟩) 0 0) 0 []) := Lib.hid (fun W g' hh e => by
          subst e
          exact World.ownsRow_lit (e := 45) (base := w.heap.size + 1) (size := 2) W #[] 0 (HBs.out W hh) (by decide) rfl)
        have HXn : Hid (∀ W g', BBp W → g' = W.heap.size → Rd (W.alloc (.cells #[.int .u64 (wt : Int), v] 45)) (some ⟨g', 0, none⟩) [.int .u64 (wt : Int), v]) := Lib.hid (fun W g' hh e => by
          subst e
          exact Rd.new W #[.int .u64 (wt : Int), v] _)
        have HLk : Hid ((iv (xs.take k)).length = k * 2 ∧ (iv (xs.drop k)).length = (n - k) * 2) := Lib.hid ⟨by rw [iv_length]; rw [List.length_take, ← HN.out]; omega, by rw [iv_length]; rw [List.length_drop, ← HN.out]⟩
        have HM : Hid (0 + k ≤ maxLen ∧ (0 + k) * 32 ≤ 140737488355328 ∧ k + 1 ≤ maxLen ∧ (k + 1) * 32 ≤ 140737488355328 ∧ k + 1 + (n - k) ≤ maxLen ∧ (k + 1 + (n - k)) * 32 ≤ 140737488355328) := Lib.hid (by unfold maxLen; omega)
        have HON : Hid ((∀ u ∈ iv (xs.take k), u.oneCell' = true) ∧ (∀ u ∈ [Value.int .u64 (wt : Int), v], u.oneCell' = true) ∧ (∀ u ∈ iv (xs.drop k), u.oneCell' = true)) := Lib.hid ⟨iv_ones (fun x hx => HSL.out x (List.mem_of_mem_take hx)), (by intro u hu; simp only [List.mem_cons, List.not_mem_nil, or_false] at hu; rcases hu with rfl | rfl; rfl; exact hv), iv_ones (fun x hx => HSL.out x (List.mem_of_mem_drop hx))⟩
        have HIns : Hid (iv (xs.take k) ++ [Value.int .u64 (wt : Int), v] ++ iv (xs.drop k) = iv (put Prod.fst (wt, v) xs) ∧ k + 1 + (n - k) = (put Prod.fst (wt, v) xs).length) := Lib.hid ⟨by
          rw [HP.out, iv_app, iv_cons]; simp, by rw [put_length]; rw [← HN.out]; omega⟩
        have HWt : Hid (∀ (W : World) (v3 : Value), BBp W → W.ownsRow (w.heap.size + 1) 45 2 v3 (k + 1 + (n - k)) (iv (xs.take k) ++ [Value.int .u64 (wt : Int), v] ++ iv (xs.drop k)) → ItP w (put Prod.fst (wt, v) xs) (.returned v3) W) := Lib.hid (fun W v3 hh ho => by
          rw [HIns.out.1, HIns.out.2] at ho
          rcases ho.2 with ⟨rfl, h0⟩ | ⟨g3, c3, cur, rfl, hbg, _, hnc, _⟩
          · exfalso
            have := put_length Prod.fst (wt, v) xs
            first | omega | (have h9 := ho.1; rw [h0] at h9; simp [iv_length] at h9; omega)
          · exact ⟨g3, c3, rfl, hnc, Rd.of_own ho, by omega, HFin.out W hh⟩)
        clear hBBp x2 e2 b2 hs2 hV HRs0 HRall
        go_region_law (first
          | (refine step_app (by rfl) _ _ 43 (by rfl) (w.heap.size + 1) 45 i0 (.agg #[.int .u64 0, .slice none 0 0]) 2 32 Try.underlying43 hi0 hz0 hz1 hz2 (by rfl) (by decide) (.slice (some ⟨_, 0, none⟩) 0 0) 0 [] (by rfl) (some ⟨g, 0, none⟩) k c (iv (xs.take k)) (by rfl) HLk.out.1 HON.out.1 HM.out.1 HM.out.2.1 (by repeat (first | exact HEm.out _ _ (by repeat (first | exact H0.out | assumption | apply HDd.out | apply HAl.out)) (by simp; done) | exact HEm.out _ _ (by repeat (first | exact H0.out | assumption | apply HDd.out | apply HAl.out)) rfl | refine own_below ?_ (Below.drew (Below.refl _ _)) | refine own_below ?_ ((Below.refl _ _).alloc (Nat.le_refl _) _))) (HRp.out _ (by repeat (first | exact H0.out | assumption | apply HDd.out | apply HAl.out))) (HBs.out _ (by repeat (first | exact H0.out | assumption | apply HDd.out | apply HAl.out))) ?_
             intro v1 w1 hown1 (hgr1 : ((V.alloc (.cells #[] 45)).alloc (.cells #[.int .u64 (wt : Int), v] 45)).drew.grownBy w1 (some V.heap.size)) hb1 hat1
             have hx1 : Hid (Rd w1 (some ⟨V.heap.size + 1, 0, none⟩) [.int .u64 (wt : Int), v]) := Lib.hid (rd_grown (by repeat (first | exact HXn.out _ _ (by repeat (first | exact H0.out | assumption | apply HDd.out | apply HAl.out)) (by simp; done) | exact HXn.out _ _ (by repeat (first | exact H0.out | assumption | apply HDd.out | apply HAl.out)) rfl | refine Rd.below ?_ (Below.drew (Below.refl _ _)) | refine Rd.below ?_ ((Below.refl _ _).alloc (Nat.le_refl _) _))) hgr1 (fun k e => by cases e; omega))
             have bb1 := HTr.out _ _ (by repeat (first | exact H0.out | assumption | apply HDd.out | apply HAl.out)) hb1
             simp only [Nat.zero_add, List.nil_append] at hown1
             have HOW1 := Lib.hid hown1
             obtain ⟨y0, y1, y2⟩ := HCl.out w1 bb1
             clear hown1 hgr1 hb1 hat1)
          | (refine step_app (by rfl) _ _ 43 (by rfl) (w.heap.size + 1) 45 i0 (.agg #[.int .u64 0, .slice none 0 0]) 2 32 Try.underlying43 hi0 hz0 hz1 hz2 (by rfl) (by decide) (.slice (some ⟨_, 0, none⟩) 0 0) 0 [] (by rfl) (some ⟨g, 0, none⟩) k c (iv (xs.take k)) (by rfl) HLk.out.1 HON.out.1 HM.out.1 HM.out.2.1 (by repeat (first | exact HEm.out _ _ (by repeat (first | exact H0.out | assumption | apply HDd.out | apply HAl.out)) (by simp; done) | exact HEm.out _ _ (by repeat (first | exact H0.out | assumption | apply HDd.out | apply HAl.out)) rfl | refine own_below ?_ (Below.drew (Below.refl _ _)) | refine own_below ?_ ((Below.refl _ _).alloc (Nat.le_refl _) _))) (HRp.out _ (by repeat (first | exact H0.out | assumption | apply HDd.out | apply HAl.out))) (HBs.out _ (by repeat (first | exact H0.out | assumption | apply HDd.out | apply HAl.out))) ?_
             intro v1 w1 hown1 (hgr1 : ((V.alloc (.cells #[.int .u64 (wt : Int), v] 45)).alloc (.cells #[] 45)).drew.grownBy w1 (some (V.heap.size + 1))) hb1 hat1
             have hx0 : Hid (Rd w1 (some ⟨V.heap.size, 0, none⟩) [.int .u64 (wt : Int), v]) := Lib.hid (rd_grown (by repeat (first | exact HXn.out _ _ (by repeat (first | exact H0.out | assumption | apply HDd.out | apply HAl.out)) (by simp; done) | exact HXn.out _ _ (by repeat (first | exact H0.out | assumption | apply HDd.out | apply HAl.out)) rfl | refine Rd.below ?_ (Below.drew (Below.refl _ _)) | refine Rd.below ?_ ((Below.refl _ _).alloc (Nat.le_refl _) _))) hgr1 (fun k e => by cases e; omega))
             have bb1 := HTr.out _ _ (by repeat (first | exact H0.out | assumption | apply HDd.out | apply HAl.out)) hb1
             simp only [Nat.zero_add, List.nil_append] at hown1
             have HOW1 := Lib.hid hown1
             obtain ⟨y0, y1, y2⟩ := HCl.out w1 bb1
             clear hown1 hgr1 hb1 hat1)
          | (refine step_app (by rfl) _ _ 43 (by rfl) (w.heap.size + 1) 45 i0 (.agg #[.int .u64 0, .slice none 0 0]) 2 32 Try.underlying43 hi0 hz0 hz1 hz2 (by rfl) (by decide) (.slice (some ⟨_, 0, none⟩) 0 0) 0 [] (by rfl) (some ⟨g, 0, none⟩) k c (iv (xs.take k)) (by rfl) HLk.out.1 HON.out.1 HM.out.1 HM.out.2.1 (by repeat (first | exact HEm.out _ _ (by repeat (first | exact H0.out | assumption | apply HDd.out | apply HAl.out)) (by simp; done) | exact HEm.out _ _ (by repeat (first | exact H0.out | assumption | apply HDd.out | apply HAl.out)) rfl | refine own_below ?_ (Below.drew (Below.refl _ _)) | refine own_below ?_ ((Below.refl _ _).alloc (Nat.le_refl _) _))) (HRp.out _ (by repeat (first | exact H0.out | assumption | apply HDd.out | apply HAl.out))) (HBs.out _ (by repeat (first | exact H0.out | assumption | apply HDd.out | apply HAl.out))) ?_
             intro v1 w1 hown1 hgr1 hb1 hat1
             have bb1 := HTr.out _ _ (by repeat (first | exact H0.out | assumption | apply HDd.out | apply HAl.out)) hb1
             simp only [Nat.zero_add, List.nil_append] at hown1
             have HOW1 := Lib.hid hown1
             obtain ⟨y0, y1, y2⟩ := HCl.out w1 bb1
             clear hown1 hgr1 hb1 hat1)
          | (refine step_app (by rfl) _ _ 43 (by rfl) (w.heap.size + 1) 45 i0 (.agg #[.int .u64 0, .slice none 0 0]) 2 32 Try.underlying43 hi0 hz0 hz1 hz2 (by rfl) (by decide) v1 k (iv (xs.take k)) (by rfl) (some ⟨_, 0, none⟩) 1 1 [.int .u64 (wt : Int), v] (by rfl) (by rfl) HON.out.2.1 HM.out.2.2.1 HM.out.2.2.2.1 (by repeat (first | exact HOW1.out | refine own_below ?_ (Below.drew (Below.refl _ _)) | refine own_below ?_ ((Below.refl _ _).alloc (Nat.le_refl _) _))) (by repeat (first | exact hx1.out | exact hx0.out | exact HXn.out _ _ (by repeat (first | exact H0.out | assumption | apply HDd.out | apply HAl.out)) (by simp; done) | exact HXn.out _ _ (by repeat (first | exact H0.out | assumption | apply HDd.out | apply HAl.out)) rfl | refine Rd.below ?_ (Below.drew (Below.refl _ _)) | refine Rd.below ?_ ((Below.refl _ _).alloc (Nat.le_refl _) _))) (HBs.out _ (by repeat (first | exact H0.out | assumption | apply HDd.out | apply HAl.out))) ?_
             intro v2 w2 hown2 hgr2 hb2 _
             have bb2 := HTr.out _ _ (by repeat (first | exact H0.out | assumption | apply HDd.out | apply HAl.out)) hb2
             have HOW2 := Lib.hid hown2
             clear hown2 hgr2 hb2)
          | (refine step_app (by rfl) _ _ 43 (by rfl) (w.heap.size + 1) 45 i0 (.agg #[.int .u64 0, .slice none 0 0]) 2 32 Try.underlying43 hi0 hz0 hz1 hz2 (by rfl) (by decide) v2 (k + 1) (iv (xs.take k) ++ [.int .u64 (wt : Int), v]) (by rfl) A3 (n - k) (c - k) (iv (xs.drop k)) (by rfl) HLk.out.2 HON.out.2.2 HM.out.2.2.2.2.1 HM.out.2.2.2.2.2 (by repeat (first | exact HOW2.out | refine own_below ?_ (Below.drew (Below.refl _ _)) | refine own_below ?_ ((Below.refl _ _).alloc (Nat.le_refl _) _))) (HRs.out _ (by repeat (first | exact H0.out | assumption | apply HDd.out | apply HAl.out))) (HBs.out _ (by repeat (first | exact H0.out | assumption | apply HDd.out | apply HAl.out))) ?_
             intro v3 w3 hown3 _ hb3 _
             have bb3 := HTr.out _ _ (by repeat (first | exact H0.out | assumption | apply HDd.out | apply HAl.out)) hb3
             have HOW3 := Lib.hid hown3
             clear hown3 hb3))
        all_goals go_wp2_with fail
        all_goals go_ret
        all_goals exact HWt.out _ _ (by repeat (first | assumption | apply HDd.out)) (by repeat (first | exact HOW3.out | refine own_below ?_ (Below.drew (Below.refl _ _))))
set_option maxHeartbeats 16000000 in
set_option maxRecDepth 100000 in
theorem rputN_any (wt : Nat) (v : Value) (hv : v.oneCell' = true) (w : World) :
    Calls Try.prog 22 #[.slice none 0 0, .agg #[.int .u64 (wt : Int), v]] w (ItP w (put Prod.fst (wt, v) [])) := by
  obtain ⟨i0, hi0, hz0, hz1, hz2⟩ := info_parts info_item
  obtain ⟨W2, hW2⟩ : ∃ W2, W2 = w.alloc (.cells #[.int .u64 (wt : Int), v] 45) := ⟨_, rfl⟩
  have hb : Below w.heap.size w W2 := by rw [hW2]; exact (Below.refl _ _).alloc (Nat.le_refl _) _
  have xb : Rd W2 (some ⟨w.heap.size, 0, none⟩) [.int .u64 (wt : Int), v] := by rw [hW2]; exact Rd.new w #[.int .u64 (wt : Int), v] _
  have HB := Lib.hid hb; have XB := Lib.hid xb; have HW2 := Lib.hid hW2
  have HS2 : Hid (W2.heap.size = w.heap.size + 1) := Lib.hid (by rw [hW2]; simp)
  clear hb xb hW2
  go_enter Try.func22, Try.ntmps22
  go_wp2_with fail
  rw [← HW2.out]
  go_loopw [5] (fun i wr => i = .int .i64 0 ∧ wr = W2) (fun i _ => 0)
  case atStart => exact ⟨rfl, rfl⟩
  case round =>
    obtain ⟨rfl, hwr⟩ := hrel
    have HWR := Lib.hid hwr
    have x1 := XB.out
    rw [← hwr] at x1
    have v0 : wr.cell? ⟨w.heap.size, 0, none⟩ = some (.int .u64 (wt : Int)) := (rd_two x1).1
    have v1 : wr.cell? ⟨w.heap.size, 1, none⟩ = some v := (rd_two x1).2
    have HX1 := Lib.hid x1
    clear hwr x1
    iterate 1
        go_wp2_with fail
        go_quiet (fail)
        go_wp2_with fail
        obtain ⟨V, hV⟩ : ∃ V, V = wr.drewN nq := ⟨_, rfl⟩
        have x2 := HX1.out.below (below_drewN (Below.refl _ wr) nq)
        have b2 : Below W2.heap.size W2 (wr.drewN nq) := by rw [HWR.out]; exact below_drewN (Below.refl _ W2) nq
        rw [← hV] at x2 b2 ⊢
        have hs2 := HS2.out
        have v0 : V.cell? ⟨w.heap.size, 0, none⟩ = some (.int .u64 (wt : Int)) := (rd_two x2).1
        have v1 : V.cell? ⟨w.heap.size, 1, none⟩ = some v := (rd_two x2).2
        have lV : w.heap.size < V.heap.size := by have := b2.size; omega
        obtain ⟨BBp, hBBp⟩ : ∃ BBp : World → Prop, BBp = fun W => Below (w.heap.size + 1) V W := ⟨_, rfl⟩
        have H0 : Hid (BBp V) := Lib.hid (by rw [hBBp]; exact Below.refl _ _)
        have HBs : Hid (∀ W, BBp W → w.heap.size + 1 ≤ W.heap.size) := Lib.hid (fun W hh => by rw [hBBp] at hh; have := hh.size; omega)
        have HDd : Hid (∀ W, BBp W → BBp W.drew) := Lib.hid (fun W hh => by rw [hBBp] at hh ⊢; exact hh.drew)
        have HAl : Hid (∀ W o, BBp W → BBp (W.alloc o)) := Lib.hid (fun W o hh => by
          have := HBs.out W hh
          rw [hBBp] at hh ⊢
          exact hh.alloc this o)
        have HTr : Hid (∀ W W', BBp W → Below (w.heap.size + 1) W W' → BBp W') := Lib.hid (fun W W' hh hb => by rw [hBBp] at hh ⊢; exact hh.trans hb)
        have HCl : Hid (∀ W, BBp W → W.cell? ⟨w.heap.size, 0, none⟩ = some (.int .u64 (wt : Int)) ∧ W.cell? ⟨w.heap.size, 1, none⟩ = some v ∧ w.heap.size < W.heap.size) := Lib.hid (fun W hh => by
          have := HBs.out W hh
          rw [hBBp] at hh
          exact ⟨by rw [hh.cell (p := ⟨w.heap.size, 0, none⟩) (Nat.lt_succ_self _)]; exact v0, by rw [hh.cell (p := ⟨w.heap.size, 1, none⟩) (Nat.lt_succ_self _)]; exact v1, by omega⟩)
        have HRp : Hid (∀ W, BBp W → Rd W none (iv [])) := Lib.hid (fun W hh => Rd.nil _ _)
        have HRs : Hid (∀ W, BBp W → Rd W none (iv [])) := Lib.hid (fun W hh => Rd.nil _ _)
        have HFin : Hid (∀ W, BBp W → Below w.heap.size w W) := Lib.hid (fun W hh => by
          rw [hBBp] at hh
          exact HB.out.trans ((b2.trans (hh.mono (by omega))).mono (by omega)))
        have HEm : Hid (∀ W g', BBp W → g' = W.heap.size → (W.alloc (.cells #[] 45)).ownsRow (w.heap.size + 1) 45 2 (.slice (some ⟨g', 0, none⟩) 0 0) 0 []) := Lib.hid (fun W g' hh e => by
          subst e
          exact World.ownsRow_lit (e := 45) (base := w.heap.size + 1) (size := 2) W #[] 0 (HBs.out W hh) (by decide) rfl)
        have HXn : Hid (∀ W g', BBp W → g' = W.heap.size → Rd (W.alloc (.cells #[.int .u64 (wt : Int), v] 45)) (some ⟨g', 0, none⟩) [.int .u64 (wt : Int), v]) := Lib.hid (fun W g' hh e => by
          subst e
          exact Rd.new W #[.int .u64 (wt : Int), v] _)
        have HLk : Hid ((iv []).length = 0 * 2 ∧ (iv []).length = 0 * 2) := Lib.hid ⟨rfl, rfl⟩
        have HM : Hid (0 + 0 ≤ maxLen ∧ (0 + 0) * 32 ≤ 140737488355328 ∧ 0 + 1 ≤ maxLen ∧ (0 + 1) * 32 ≤ 140737488355328 ∧ 0 + 1 + 0 ≤ maxLen ∧ (0 + 1 + 0) * 32 ≤ 140737488355328) := Lib.hid (by unfold maxLen; omega)
        have HON : Hid ((∀ u ∈ iv [], u.oneCell' = true) ∧ (∀ u ∈ [Value.int .u64 (wt : Int), v], u.oneCell' = true) ∧ (∀ u ∈ iv [], u.oneCell' = true)) := Lib.hid ⟨iv_ones (fun x hx => by simp at hx), (by intro u hu; simp only [List.mem_cons, List.not_mem_nil, or_false] at hu; rcases hu with rfl | rfl; rfl; exact hv), iv_ones (fun x hx => by simp at hx)⟩
        have HIns : Hid (iv [] ++ [Value.int .u64 (wt : Int), v] ++ iv [] = iv (put Prod.fst (wt, v) []) ∧ 0 + 1 + 0 = (put Prod.fst (wt, v) []).length) := Lib.hid ⟨by
          rfl, by rw [put_length]; rfl⟩
        have HWt : Hid (∀ (W : World) (v3 : Value), BBp W → W.ownsRow (w.heap.size + 1) 45 2 v3 (0 + 1 + 0) (iv [] ++ [Value.int .u64 (wt : Int), v] ++ iv []) → ItP w (put Prod.fst (wt, v) []) (.returned v3) W) := Lib.hid (fun W v3 hh ho => by
          rw [HIns.out.1, HIns.out.2] at ho
          rcases ho.2 with ⟨rfl, h0⟩ | ⟨g3, c3, cur, rfl, hbg, _, hnc, _⟩
          · exfalso
            have := put_length Prod.fst (wt, v) []
            first | omega | (have h9 := ho.1; rw [h0] at h9; simp [iv_length] at h9; omega)
          · exact ⟨g3, c3, rfl, hnc, Rd.of_own ho, by omega, HFin.out W hh⟩)
        clear hBBp x2 b2 hs2 hV
        go_region_law (first
          | (refine step_app (by rfl) _ _ 43 (by rfl) (w.heap.size + 1) 45 i0 (.agg #[.int .u64 0, .slice none 0 0]) 2 32 Try.underlying43 hi0 hz0 hz1 hz2 (by rfl) (by decide) (.slice (some ⟨_, 0, none⟩) 0 0) 0 [] (by rfl) none 0 0 (iv []) (by rfl) HLk.out.1 HON.out.1 HM.out.1 HM.out.2.1 (by repeat (first | exact HEm.out _ _ (by repeat (first | exact H0.out | assumption | apply HDd.out | apply HAl.out)) (by simp; done) | exact HEm.out _ _ (by repeat (first | exact H0.out | assumption | apply HDd.out | apply HAl.out)) rfl | refine own_below ?_ (Below.drew (Below.refl _ _)) | refine own_below ?_ ((Below.refl _ _).alloc (Nat.le_refl _) _))) (HRp.out _ (by repeat (first | exact H0.out | assumption | apply HDd.out | apply HAl.out))) (HBs.out _ (by repeat (first | exact H0.out | assumption | apply HDd.out | apply HAl.out))) ?_
             intro v1 w1 hown1 (hgr1 : ((V.alloc (.cells #[] 45)).alloc (.cells #[.int .u64 (wt : Int), v] 45)).drew.grownBy w1 (some V.heap.size)) hb1 hat1
             have hx1 : Hid (Rd w1 (some ⟨V.heap.size + 1, 0, none⟩) [.int .u64 (wt : Int), v]) := Lib.hid (rd_grown (by repeat (first | exact HXn.out _ _ (by repeat (first | exact H0.out | assumption | apply HDd.out | apply HAl.out)) (by simp; done) | exact HXn.out _ _ (by repeat (first | exact H0.out | assumption | apply HDd.out | apply HAl.out)) rfl | refine Rd.below ?_ (Below.drew (Below.refl _ _)) | refine Rd.below ?_ ((Below.refl _ _).alloc (Nat.le_refl _) _))) hgr1 (fun k e => by cases e; omega))
             have bb1 := HTr.out _ _ (by repeat (first | exact H0.out | assumption | apply HDd.out | apply HAl.out)) hb1
             simp only [Nat.zero_add, List.nil_append] at hown1
             have HOW1 := Lib.hid hown1
             obtain ⟨y0, y1, y2⟩ := HCl.out w1 bb1
             clear hown1 hgr1 hb1 hat1)
          | (refine step_app (by rfl) _ _ 43 (by rfl) (w.heap.size + 1) 45 i0 (.agg #[.int .u64 0, .slice none 0 0]) 2 32 Try.underlying43 hi0 hz0 hz1 hz2 (by rfl) (by decide) (.slice (some ⟨_, 0, none⟩) 0 0) 0 [] (by rfl) none 0 0 (iv []) (by rfl) HLk.out.1 HON.out.1 HM.out.1 HM.out.2.1 (by repeat (first | exact HEm.out _ _ (by repeat (first | exact H0.out | assumption | apply HDd.out | apply HAl.out)) (by simp; done) | exact HEm.out _ _ (by repeat (first | exact H0.out | assumption | apply HDd.out | apply HAl.out)) rfl | refine own_below ?_ (Below.drew (Below.refl _ _)) | refine own_below ?_ ((Below.refl _ _).alloc (Nat.le_refl _) _))) (HRp.out _ (by repeat (first | exact H0.out | assumption | apply HDd.out | apply HAl.out))) (HBs.out _ (by repeat (first | exact H0.out | assumption | apply HDd.out | apply HAl.out))) ?_
             intro v1 w1 hown1 (hgr1 : ((V.alloc (.cells #[.int .u64 (wt : Int), v] 45)).alloc (.cells #[] 45)).drew.grownBy w1 (some (V.heap.size + 1))) hb1 hat1
             have hx0 : Hid (Rd w1 (some ⟨V.heap.size, 0, none⟩) [.int .u64 (wt : Int), v]) := Lib.hid (rd_grown (by repeat (first | exact HXn.out _ _ (by repeat (first | exact H0.out | assumption | apply HDd.out | apply HAl.out)) (by simp; done) | exact HXn.out _ _ (by repeat (first | exact H0.out | assumption | apply HDd.out | apply HAl.out)) rfl | refine Rd.below ?_ (Below.drew (Below.refl _ _)) | refine Rd.below ?_ ((Below.refl _ _).alloc (Nat.le_refl _) _))) hgr1 (fun k e => by cases e; omega))
             have bb1 := HTr.out _ _ (by repeat (first | exact H0.out | assumption | apply HDd.out | apply HAl.out)) hb1
             simp only [Nat.zero_add, List.nil_append] at hown1
             have HOW1 := Lib.hid hown1
             obtain ⟨y0, y1, y2⟩ := HCl.out w1 bb1
             clear hown1 hgr1 hb1 hat1)
          | (refine step_app (by rfl) _ _ 43 (by rfl) (w.heap.size + 1) 45 i0 (.agg #[.int .u64 0, .slice none 0 0]) 2 32 Try.underlying43 hi0 hz0 hz1 hz2 (by rfl) (by decide) (.slice (some ⟨_, 0, none⟩) 0 0) 0 [] (by rfl) none 0 0 (iv []) (by rfl) HLk.out.1 HON.out.1 HM.out.1 HM.out.2.1 (by repeat (first | exact HEm.out _ _ (by repeat (first | exact H0.out | assumption | apply HDd.out | apply HAl.out)) (by simp; done) | exact HEm.out _ _ (by repeat (first | exact H0.out | assumption | apply HDd.out | apply HAl.out)) rfl | refine own_below ?_ (Below.drew (Below.refl _ _)) | refine own_below ?_ ((Below.refl _ _).alloc (Nat.le_refl _) _))) (HRp.out _ (by repeat (first | exact H0.out | assumption | apply HDd.out | apply HAl.out))) (HBs.out _ (by repeat (first | exact H0.out | assumption | apply HDd.out | apply HAl.out))) ?_
             intro v1 w1 hown1 hgr1 hb1 hat1
             have bb1 := HTr.out _ _ (by repeat (first | exact H0.out | assumption | apply HDd.out | apply HAl.out)) hb1
             simp only [Nat.zero_add, List.nil_append] at hown1
             have HOW1 := Lib.hid hown1
             obtain ⟨y0, y1, y2⟩ := HCl.out w1 bb1
             clear hown1 hgr1 hb1 hat1)
          | (refine step_app (by rfl) _ _ 43 (by rfl) (w.heap.size + 1) 45 i0 (.agg #[.int .u64 0, .slice none 0 0]) 2 32 Try.underlying43 hi0 hz0 hz1 hz2 (by rfl) (by decide) v1 0 (iv []) (by rfl) (some ⟨_, 0, none⟩) 1 1 [.int .u64 (wt : Int), v] (by rfl) (by rfl) HON.out.2.1 HM.out.2.2.1 HM.out.2.2.2.1 (by repeat (first | exact HOW1.out | refine own_below ?_ (Below.drew (Below.refl _ _)) | refine own_below ?_ ((Below.refl _ _).alloc (Nat.le_refl _) _))) (by repeat (first | exact hx1.out | exact hx0.out | exact HXn.out _ _ (by repeat (first | exact H0.out | assumption | apply HDd.out | apply HAl.out)) (by simp; done) | exact HXn.out _ _ (by repeat (first | exact H0.out | assumption | apply HDd.out | apply HAl.out)) rfl | refine Rd.below ?_ (Below.drew (Below.refl _ _)) | refine Rd.below ?_ ((Below.refl _ _).alloc (Nat.le_refl _) _))) (HBs.out _ (by repeat (first | exact H0.out | assumption | apply HDd.out | apply HAl.out))) ?_
             intro v2 w2 hown2 hgr2 hb2 _
             have bb2 := HTr.out _ _ (by repeat (first | exact H0.out | assumption | apply HDd.out | apply HAl.out)) hb2
             have HOW2 := Lib.hid hown2
             clear hown2 hgr2 hb2)
          | (refine step_app (by rfl) _ _ 43 (by rfl) (w.heap.size + 1) 45 i0 (.agg #[.int .u64 0, .slice none 0 0]) 2 32 Try.underlying43 hi0 hz0 hz1 hz2 (by rfl) (by decide) v2 (0 + 1) (iv [] ++ [.int .u64 (wt : Int), v]) (by rfl) none 0 0 (iv []) (by rfl) HLk.out.2 HON.out.2.2 HM.out.2.2.2.2.1 HM.out.2.2.2.2.2 (by repeat (first | exact HOW2.out | refine own_below ?_ (Below.drew (Below.refl _ _)) | refine own_below ?_ ((Below.refl _ _).alloc (Nat.le_refl _) _))) (HRs.out _ (by repeat (first | exact H0.out | assumption | apply HDd.out | apply HAl.out))) (HBs.out _ (by repeat (first | exact H0.out | assumption | apply HDd.out | apply HAl.out))) ?_
             intro v3 w3 hown3 _ hb3 _
             have bb3 := HTr.out _ _ (by repeat (first | exact H0.out | assumption | apply HDd.out | apply HAl.out)) hb3
             have HOW3 := Lib.hid hown3
             clear hown3 hb3))
        all_goals go_wp2_with fail
        all_goals go_ret
        all_goals exact HWt.out _ _ (by repeat (first | assumption | apply HDd.out)) (by repeat (first | exact HOW3.out | refine own_below ?_ (Below.drew (Below.refl _ _))))
end Go.Proofs.Ytbegngilbngnoaa.Pk
