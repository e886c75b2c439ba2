/- TopPkM TopPk -/
import Derived.Test.YtbegngilbngnoaaDoorBnC
import Derived.Test.YtbegngilbngnoaaDoorBnD
import Derived.Test.YtbegngilbngnoaaDoorZerProg
import Derived.Test.YtbegngilbngnoaaDoorBnA
namespace Go.Proofs.YtbegngilbngnoaaDoor.Tp
open Go.RowKit Go.Lib Rw Ls Od _root_.Go.Proofs.YtbegngilbngnoaaDoor.Nm Pk Ze

theorem enc_lt : ∀ (s : List Nat) (r : Nat), (∀ c ∈ s, c < 256) → ∀ x ∈ encR r s, x < 258
  | [], r, _, x, hx => by
    simp only [encR, List.mem_append, List.mem_singleton] at hx
    rcases hx with h | h
    · have := dg_lt r x h; omega
    · omega
  | c :: s, r, h, x, hx => by
    unfold encR at hx
    split at hx
    · exact enc_lt s (r + 1) (fun y hy => h y (List.mem_cons_of_mem _ hy)) x hx
    · simp only [List.mem_append, List.mem_cons] at hx
      have hc := h c (List.mem_cons_self ..)
      rcases hx with h1 | h1 | h1
      · have := dg_lt r x h1; omega
      · omega
      · exact enc_lt s 0 (fun y hy => h y (List.mem_cons_of_mem _ hy)) x h1
/-- how often each symbol is among the first k -/
def cts (l : List Nat) (k : Nat) : List Nat := (List.range 258).map fun v => (l.take k).count v
theorem cts_length (l : List Nat) (k : Nat) : (cts l k).length = 258 := by simp [cts]
theorem cts_zero (l : List Nat) : cts l 0 = List.replicate 258 0 := by simp [cts, List.map_const']
theorem cts_at (l : List Nat) (k : Nat) {v : Nat} (hv : v < 258) : (cts l k).getD v 0 = (l.take k).count v := by simp [cts, List.getD_eq_getElem?_getD, hv]
theorem cts_succ (l : List Nat) {k : Nat} (hk : k < l.length) : cts l (k + 1) = (cts l k).set (l.getD k 0) ((l.take k).count (l.getD k 0) + 1) := by
  have hg : l.getD k 0 = l[k] := gd hk
  obtain ⟨x, hx⟩ : ∃ x, x = l.getD k 0 := ⟨_, rfl⟩
  rw [← hx] at hg ⊢
  apply List.ext_getElem (by simp [cts_length])
  intro v h1 h2
  rw [List.getElem_set]
  simp only [cts, List.getElem_map, List.getElem_range]
  rw [List.take_succ_eq_append_getElem hk, List.count_append, ← hg]
  by_cases e : x = v
  · rw [if_pos e, e]; simp
  · rw [if_neg e]; simp [e]
theorem cts_le (l : List Nat) (k v : Nat) : (cts l k).getD v 0 ≤ l.length := by
  rcases Nat.lt_or_ge v 258 with h | h
  · rw [cts_at l k h]
    exact Nat.le_trans List.count_le_length (by rw [List.length_take]; exact Nat.min_le_right _ _)
  · rw [List.getD_eq_getElem?_getD, List.getElem?_eq_none (by rw [cts_length]; exact h)]; exact Nat.zero_le _
theorem cts_okW {l : List Nat} {k : Nat} (h : l.length ≤ 1099511627776) : okW (cts l k) = true := by
  unfold okW
  simp only [Bool.and_eq_true, decide_eq_true_eq, List.all_eq_true]
  refine ⟨by rw [cts_length]; omega, fun x hx => ?_⟩
  obtain ⟨i, hi, rfl⟩ := List.getElem_of_mem hx
  have := cts_le l k i
  rw [gd hi] at this
  omega
theorem count_total : ∀ {l : List Nat} {n : Nat}, (∀ x ∈ l, x < n) → sum (fun v => l.count v) (List.range n) = l.length
  | [], n, _ => by
    have : sum (fun v => ([] : List Nat).count v) (List.range n) = sum (fun _ => 0) (List.range n) := sum_congr fun x _ => by simp
    rw [this, sum_const]; simp
  | y :: l, n, h => by
    have ih := count_total (l := l) (n := n) (fun x hx => h x (List.mem_cons_of_mem _ hx))
    have hy := h y (List.mem_cons_self ..)
    have e : sum (fun v => (y :: l).count v) (List.range n) = sum (fun v => l.count v + if y = v then 1 else 0) (List.range n) := sum_congr fun v _ => by
      rw [List.count_cons]; simp
    rw [e, sum_add, ih, List.length_cons]
    congr 1
    have := count_sum (L := List.range n) (s := [y]) List.nodup_range (fun x hx => by simp at hx; subst hx; exact List.mem_range.2 hy) (fun _ => 1)
    have e2 : sum (fun v => if y = v then 1 else 0) (List.range n) = sum (fun x => 1 * [y].count x) (List.range n) := sum_congr fun v _ => by
      rw [List.count_cons, List.count_nil]; simp
    rw [e2, this]
    simp [sum]
/-- nine bits for each that is there -/
def nine (ws : List Nat) : List Int := ws.map fun y => if 0 < y then 9 else 0
theorem nine_at (ws : List Nat) (i : Nat) : (nine ws).getD i 0 = if 0 < ws.getD i 0 then 9 else 0 := by
  unfold nine
  rw [List.getD_eq_getElem?_getD, List.getD_eq_getElem?_getD, List.getElem?_map]
  cases ws[i]? <;> simp
theorem nine_cost {ws : List Nat} (ho : okW ws = true) : costR ws (nine ws) = (9 * sum (fun i => ws.getD i 0) (List.range ws.length), 0) := by
  unfold costR
  rw [if_pos ho, if_pos (by simp [nine]), if_pos]
  · refine Prod.ext ?_ rfl
    unfold costT
    show sum _ _ = _
    have : sum (fun i => ws.getD i 0 * ((nine ws).getD i 0).toNat) (List.range ws.length) = sum (fun i => 9 * ws.getD i 0) (List.range ws.length) := sum_congr fun i _ => by
      rw [nine_at]
      split
      · rename_i h; rw [Nat.mul_comm]; rfl
      · rename_i h; have : ws.getD i 0 = 0 := by omega
        rw [this]; simp
    rw [this]
    generalize List.range ws.length = R
    induction R with
    | nil => rfl
    | cons x R ih => rw [sum_cons, sum_cons, ih]; omega
  · rw [List.all_eq_true]
    intro i _
    rw [nine_at, good_iff]
    split <;> omega
theorem nine_room {ws : List Nat} (h : ws.length ≤ 258) : ∃ n : Int, roomR (nine ws) 15 = (n, 0) ∧ 0 ≤ n := by
  have hl : (nine ws).length = ws.length := by simp [nine]
  have ht : tookT (nine ws) 15 ws.length ≤ ws.length * 64 := by
    unfold tookT
    have : sum (fun i => if 0 < (nine ws).getD i 0 then 2 ^ (15 - ((nine ws).getD i 0).toNat) else 0) (List.range ws.length) ≤ sum (fun _ => 64) (List.range ws.length) := sum_le fun i _ => by
      rw [nine_at]
      split
      · split
        · exact Nat.le_refl _
        · rename_i h1 h2; exact absurd (by decide : (0 : Int) < 9) h2
      · exact Nat.zero_le _
    rw [sum_const, List.length_range] at this
    exact this
  refine ⟨((2 ^ 15 : Nat) : Int) - (tookT (nine ws) 15 ws.length : Nat), ?_, by omega⟩
  unfold roomR
  rw [if_pos (by unfold okR; simp only [Bool.and_eq_true, decide_eq_true_eq]; omega), if_pos, hl]
  · rfl
  · rw [List.all_eq_true]
    intro z hz
    obtain ⟨i, hi, he⟩ := List.getElem_of_mem hz
    have := nine_at ws i
    rw [List.getD_eq_getElem?_getD, List.getElem?_eq_getElem hi, Option.getD_some, he] at this
    rw [this]
    simp only [Bool.and_eq_true, decide_eq_true_eq]
    split <;> omega
set_option maxRecDepth 100000 in
/-- lengths of a limit of 15 cost at most nine bits each -/
theorem cost_nine {l : List Nat} (h : ∀ x ∈ l, x < 258) (hl : l.length ≤ 1099511627776) : cost (cts l l.length) (lens (cts l l.length) 15) ≤ 9 * l.length := by
  have ho := cts_okW (l := l) (k := l.length) hl
  have hk : (sy (cts l l.length)).length ≤ 2 ^ 15 := Nat.le_trans (sy_len _) (by rw [cts_length]; decide)
  obtain ⟨n, h1, h2⟩ := nine_room (ws := cts l l.length) (by rw [cts_length]; omega)
  have h3 := nine_cost ho
  generalize hW : cts l l.length = ws at ho hk h1 h2 h3 ⊢
  have h1' : roomR (nine ws) ((15 : Nat) : Int) = (n, 0) := h1
  have h4 := lens_least (ws := ws) (lim := 15) (ls := nine ws) (n := n) (b := 9 * sum (fun i => ws.getD i 0) (List.range ws.length)) (by decide) hk h1' h2 h3
  have h5 : sum (fun i => ws.getD i 0) (List.range ws.length) = l.length := by
    have e := count_total h
    rw [← hW, cts_length]
    refine Eq.trans (sum_congr fun v hv => ?_) e
    rw [cts_at l _ (List.mem_range.1 hv), List.take_length]
  rw [h5] at h4
  exact h4
theorem wider_all {ws : List Nat} {lim : Nat} (h1 : 1 ≤ lim) (hk : (sy ws).length ≤ 2 ^ lim) : ∀ d, cost ws (lens ws (lim + d)) ≤ cost ws (lens ws lim)
  | 0 => Nat.le_refl _
  | d + 1 => Nat.le_trans (lens_wider (lim := lim + d) (Nat.le_trans h1 (Nat.le_add_right lim d)) (Nat.le_trans hk (Nat.pow_le_pow_right (n := 2) (by decide) (Nat.le_add_right lim d)))) (wider_all h1 hk d)
/-- what the law asks of any other limit -/
theorem other_limit {ws : List Nat} (ho : okW ws = true) (lim : Int) : (lenR ws lim).2 ≠ 0 ∨ ((costR ws (up (lenR ws lim).1)).2 = 0 ∧ cost ws (lens ws 15) ≤ (costR ws (up (lenR ws lim).1)).1) := by
  unfold lenR
  split
  · rename_i h
    unfold okL at h
    simp only [Bool.and_eq_true, decide_eq_true_eq] at h
    obtain ⟨m, rfl⟩ := Int.eq_ofNat_of_zero_le (show 0 ≤ lim by omega)
    split
    · exact .inl (by decide)
    · rename_i h2
      right
      rw [Int.toNat_natCast] at h2 ⊢
      have hm1 : 1 ≤ m := by omega
      have hm15 : m ≤ 15 := by omega
      rw [show ((lens ws m, (0 : Int)).1) = lens ws m from rfl, lens_cost ho hm1 hm15 (by omega)]
      refine ⟨rfl, ?_⟩
      have := wider_all (ws := ws) hm1 (by omega) (15 - m)
      rw [show m + (15 - m) = 15 by omega] at this
      exact this
  · exact .inl (by decide)
theorem len15 {ws : List Nat} (ho : okW ws = true) : lenR ws 15 = (lens ws 15, 0) ∧ costR ws (up (lens ws 15)) = (cost ws (lens ws 15), 0) := by
  have hk : (sy ws).length ≤ 2 ^ 15 := Nat.le_trans (sy_len ws) (by have := okW_len ho; omega)
  refine ⟨?_, lens_cost ho (by decide) (by decide) hk⟩
  unfold lenR
  rw [if_pos (by unfold okL; simp [ho]), if_neg (by rw [show (15 : Int).toNat = 15 from rfl]; omega)]
  rfl
end Go.Proofs.YtbegngilbngnoaaDoor.Tp
namespace Go.Proofs.YtbegngilbngnoaaDoor.Tp
open Go.RowKit Go.Lib Rw Ls Od _root_.Go.Proofs.YtbegngilbngnoaaDoor.Nm Pk Ze

theorem nums_set2 (L : List Nat) (k v : Nat) : (nums L).set k (.int .u64 (v : Int)) = nums (L.set k v) := by unfold nums; exact set_map (fun (n : Nat) => Value.int .u64 (n : Int)) L k v
theorem info_u64 : (Tryd.prog.info? 31).map (fun i => (i.zero, i.size, i.bytes)) = some (some (.int .u64 0), 1, 8) := by kernel_rfl
theorem packed_big (s : ByteArray) (lim : Int) (w : World) (h : 2000 < s.size) :
    Calls Tryd.prog 7 #[.string s, .int .i64 lim] w fun e w' => e = .returned (.bool true) ∧ Below w.heap.size w w' := by
  have CL := Lib.hid (fun W => Tb.begins_any W)
  have t1 : decide ((2000 : Int) < (s.size : Int)) = true := decide_eq_true (by omega)
  have t2 : decide (2000 < s.size) = true := decide_eq_true h
  clear h
  go_enter Tryd.func7, Tryd.ntmps7
  go_wp2_with fail
  refine (CL.out _).mono ?_
  rintro e w0 ⟨rfl, b⟩
  have B := Lib.hid b
  clear b
  go_wp2_with fail
  go_ret
  exact ⟨rfl, B.out⟩
set_option maxHeartbeats 8000000 in
set_option maxRecDepth 100000 in
theorem packed_law (s : ByteArray) (lim : Int) (w : World) :
    Calls Tryd.prog 7 #[.string s, .int .i64 lim] w fun e w' => e = .returned (.bool true) ∧ Below w.heap.size w w' := by
  by_cases hbig : 2000 < s.size
  · exact packed_big s lim w hbig
  obtain ⟨i0, hi0, hz0, hz1, hz2⟩ := info_parts info_u64
  have CL := Lib.hid (fun W => Tb.begins_any W)
  have t1 : decide ((2000 : Int) < (s.size : Int)) = false := decide_eq_false (by omega)
  have t2 : decide (2000 < s.size) = false := decide_eq_false hbig
  have hE : enE (bsN s) = 0 := by unfold enE; rw [if_pos (by rw [bsN_length]; omega)]
  have hL : enL (bsN s) = encR 0 (bsN s) := by unfold enL; rw [if_pos (by rw [bsN_length]; omega)]
  have hlt : ∀ x ∈ enL (bsN s), x < 258 := by rw [hL]; exact enc_lt _ 0 (bsN_lt s)
  have hll : (enL (bsN s)).length ≤ 2001 := by rw [hL]; have := enc_le (bsN s) 0; rw [bsN_length] at this; omega
  obtain ⟨l, hl⟩ : ∃ l, l = enL (bsN s) := ⟨_, rfl⟩
  have CA0 := fun W => pencode_any s W
  rw [hE, ← hl] at CA0
  rw [← hl] at hlt hll
  obtain ⟨n, hn⟩ : ∃ n, n = l.length := ⟨_, rfl⟩
  rw [← hn] at hll
  have CA : Hid (∀ W, Calls Tryd.prog 8 #[.string s] W (NEn W n l 0)) := Lib.hid (fun W => nen_of hn.symm (CA0 W))
  have ho := cts_okW (l := l) (k := l.length) (by omega)
  have hlen : (lens (cts l l.length) 15).length = 258 := by rw [lens_length, cts_length]
  obtain ⟨g1, g2⟩ := len15 ho
  have hcn := cost_nine hlt (by omega)
  have hot := other_limit ho lim
  have CB : Hid (∀ q c W, Rd W q (nums (cts l n)) → Calls Tryd.prog 19 #[.slice q 258 c, .int .i64 15] W (IEn W 258 (lens (cts l n) 15) 0)) := Lib.hid (fun q c W h => by
    rw [hn] at h ⊢
    have := plengths_any (cts l l.length) 15 q c W h (by rw [cts_length]; omega)
    rw [cts_length] at this
    exact ien_of g1 hlen this)
  have CC : Hid (∀ q c q2 d W, Rd W q (nums (cts l n)) → Rd W q2 (zs (up (lens (cts l n) 15))) → Calls Tryd.prog 20 #[.slice q 258 c, .slice q2 258 d] W fun e w' => e = .returned (.tuple #[.int .u64 ((cost (cts l n) (lens (cts l n) 15) : Nat) : Int), .int .i64 0]) ∧ Below W.heap.size W w') := Lib.hid (fun q c q2 d W h1 h2 => by
    rw [hn] at h1 h2 ⊢
    have := pcost_any (cts l l.length) (up (lens (cts l l.length) 15)) q q2 c d W h1 h2 (by rw [cts_length]; omega) (by rw [up_length, hlen]; omega)
    rw [cts_length, up_length, hlen, g2] at this
    exact this)
  obtain ⟨L2, hL2⟩ : ∃ L2, L2 = (lenR (cts l n) lim).1 := ⟨_, rfl⟩
  obtain ⟨r2, hr2⟩ : ∃ r2, r2 = (lenR (cts l n) lim).2 := ⟨_, rfl⟩
  obtain ⟨m2, hm2⟩ : ∃ m2, m2 = L2.length := ⟨_, rfl⟩
  have hm2b : m2 ≤ 512 := by
    rw [hm2, hL2]; unfold lenR
    split
    · split
      · simp
      · rw [lens_length, cts_length]; omega
    · simp
  have CD : Hid (∀ q c W, Rd W q (nums (cts l n)) → Calls Tryd.prog 19 #[.slice q 258 c, .int .i64 lim] W (IEn W m2 L2 r2)) := Lib.hid (fun q c W h => by
    have := plengths_any (cts l n) lim q c W h (by rw [cts_length]; omega)
    rw [cts_length] at this
    exact ien_of (Prod.ext hL2.symm hr2.symm) hm2.symm this)
  obtain ⟨x2, hx2⟩ : ∃ x2, x2 = (costR (cts l n) (up L2)).1 := ⟨_, rfl⟩
  obtain ⟨y2, hy2⟩ : ∃ y2, y2 = (costR (cts l n) (up L2)).2 := ⟨_, rfl⟩
  have CE : Hid (∀ q c q2 d W, Rd W q (nums (cts l n)) → Rd W q2 (zs (up L2)) → Calls Tryd.prog 20 #[.slice q 258 c, .slice q2 m2 d] W fun e w' => e = .returned (.tuple #[.int .u64 (x2 : Int), .int .i64 y2]) ∧ Below W.heap.size W w') := Lib.hid (fun q c q2 d W h1 h2 => by
    have := pcost_any (cts l n) (up L2) q q2 c d W h1 h2 (by rw [cts_length]; omega) (by rw [up_length]; omega)
    rw [cts_length, up_length, ← hm2, ← hx2, ← hy2] at this
    exact this)
  obtain ⟨K, hK⟩ : ∃ K, K = cost (cts l n) (lens (cts l n) 15) := ⟨_, rfl⟩
  rw [← hK] at CC
  have hK9 : K ≤ 9 * n := by rw [hK, hn]; exact hcn
  have hor : r2 ≠ 0 ∨ (y2 = 0 ∧ K ≤ x2) := by
    rw [hr2, hy2, hx2, hK, hL2, hn]; exact hot
  obtain ⟨n9, hn9⟩ : ∃ n9, n9 = 9 * n := ⟨_, rfl⟩
  have u1 : IntKind.u64.wrap (n : Int) = (n : Int) := IntWalk.u64_in _ (by omega)
  have u2 : (9 : Int) * (n : Int) = (n9 : Int) := by omega
  have u3 : IntKind.u64.wrap (n9 : Int) = (n9 : Int) := IntWalk.u64_in _ (by omega)
  have u4 : decide ((n9 : Int) < (K : Int)) = false := decide_eq_false (by omega)
  have u5 : decide (n9 < K) = false := decide_eq_false (by omega)
  have HLT := Lib.hid hlt; have HNL := Lib.hid hn
  have B : Hid (Below w.heap.size w w) := Lib.hid (Below.refl _ _)
  clear hbig hE hL hl hn CA0 ho hlen g1 g2 hcn hot hL2 hr2 hm2 hx2 hy2 hK hK9 hlt hn9
  go_enter Tryd.func7, Tryd.ntmps7
  go_wp2_with fail
  refine (CL.out _).mono ?_
  rintro e w0 ⟨rfl, b⟩
  replace B := Lib.hid (B.out.trans (b.mono B.out.size))
  clear b
  go_wp2_with fail
  refine (CA.out _).mono ?_
  rintro e w1 ⟨q1, c1, rfl, hc1, r1, b⟩
  replace B := Lib.hid (B.out.trans (b.mono B.out.size))
  have R1 := Lib.hid r1
  clear b r1
  go_wp2_with (at_make; refine wpList_make_full _ rfl _ _ 22 rfl w1.heap.size 31 i0 (.int .u64 0) 1 Tryd.underlying22 hi0 hz0 hz1 .i64 .i64 258 258 258 rfl rfl rfl rfl ?c1 ?c2 ?c3 ?_)
  case c1 => rw [hz2]; omega
  case c2 => unfold maxLen; omega
  case c3 => simp
  intro w2 hown2 hgr2
  have b2 : Below w1.heap.size w1 w2 := (Below.refl _ w1).grown hgr2 (Nat.le_refl _) (by simp)
  rw [toList_madeCells_one] at hown2
  obtain ⟨g, hg⟩ : ∃ g, g = w1.heap.size := ⟨_, rfl⟩
  rw [← hg] at hown2 b2 ⊢
  have HA : Hid (Arr w2 g 31 g 258 (nums (cts l 0))) := Lib.hid (by
    rw [cts_zero]
    have e : List.replicate 258 (Value.int .u64 0) = nums (List.replicate 258 0) := by simp [nums]
    rw [← e]; exact hown2)
  have HB : Hid (Below g w1 w2) := Lib.hid b2
  have HG := Lib.hid hg
  have NB : Hid (∀ a, q1 = some a → 0 < n → a.block < g) := Lib.hid (fun a e h0 => by
    obtain ⟨a2, e2, h⟩ := R1.out.form (by rw [nums_length, ← HNL.out]; exact h0)
    rw [e] at e2; cases e2; rw [hg]; exact h)
  clear hown2 hgr2 b2 hg
  go_wp2_with fail
  go_loopw [31] (fun iv wr => ∃ k : Nat, k ≤ n ∧ iv = .int .i64 k ∧ Hid (Arr wr g 31 g 258 (nums (cts l k))) ∧ Hid (Below g w1 wr)) (fun iv _ => n - (RowKit.intOf iv).toNat)
  case atStart => exact ⟨0, by omega, rfl, HA, HB⟩
  case round =>
    clear HA HB
    obtain ⟨k, hk, rfl, ha, hb⟩ := hrel
    have Q1 : Hid (Rd wr q1 (nums l)) := Lib.hid (R1.out.below (by rw [← HG.out]; exact hb.out))
    by_cases hlt : k < n
    · obtain ⟨a1, e1, cs⟩ := rd_num Q1.out k (by rw [← HNL.out]; exact hlt)
      subst e1
      have hkl : k < l.length := by rw [← HNL.out]; exact hlt
      have hsu := cts_succ l hkl
      obtain ⟨x, hx⟩ : ∃ x, x = l.getD k 0 := ⟨_, rfl⟩
      have hx258 : x < 258 := by rw [hx, gd hkl]; exact HLT.out _ (List.getElem_mem _)
      rw [← hx] at cs hsu
      have cg := ha.out.cell hx258
      have fg := ha.out.free x
      have hval : (nums (cts l k)).getD x (.bool false) = .int .u64 (((cts l k).getD x 0 : Nat) : Int) := by
        simp [nums, List.getD_eq_getElem?_getD, cts_length, hx258]
      rw [hval, cts_at l k hx258] at cg
      have hcl : (l.take k).count x ≤ 2001 := Nat.le_trans List.count_le_length (by rw [List.length_take]; have := HNL.out; omega)
      obtain ⟨y, hy⟩ : ∃ y, y = (l.take k).count x := ⟨_, rfl⟩
      rw [← hy] at cg hcl hsu
      have S1 := ha.out.set x (.int .u64 ((y + 1 : Nat) : Int))
      rw [nums_set2, ← hsu] at S1
      have S2 := below_put hb.out (a := ⟨g, x, none⟩) (Nat.le_refl _) (.int .u64 ((y + 1 : Nat) : Int))
      have H1 := Lib.hid S1; have H2 := Lib.hid S2
      obtain ⟨y1, hy1⟩ : ∃ y1, y1 = y + 1 := ⟨_, rfl⟩
      rw [← hy1] at H1 H2
      have v1 : IntKind.u64.wrap ((y : Int) + 1) = (y1 : Int) := by rw [hy1]; exact IntWalk.u64_in _ (by omega)
      have k0 : (0 : Int) ≤ (k : Int) := by omega
      have k1 : (k : Int) < (n : Int) := by omega
      have x0 : (0 : Int) ≤ (x : Int) := by omega
      have x1 : (x : Int) < 258 := by omega
      have e1 : decide ((257 : Int) < (x : Int)) = false := decide_eq_false (by omega)
      have e2 : decide (257 < x) = false := decide_eq_false (by omega)
      clear S1 S2 hsu hx hy hy1 hval ha hb
      go_wp2_with fail
      go_roundw
      case rel => exact ⟨k + 1, by omega, by go_num, H1, H2⟩
      case measure => simp [RowKit.intOf]; omega
    · obtain rfl : k = n := by omega
      have k1 : ¬ (k : Int) < (k : Int) := by omega
      have W1 : Hid (Rd wr (some ⟨g, 0, none⟩) (nums (cts l k))) := Lib.hid ha.out.rd
      have B3 : Hid (Below w.heap.size w wr) := Lib.hid (B.out.trans (hb.out.mono (by rw [HG.out]; exact B.out.size)))
      clear ha hb
      go_wp2_with fail
      refine (CB.out _ _ _ W1.out).mono ?_
      rintro e w3 ⟨q3, c3, rfl, hc3, r3, b⟩
      replace W1 := Lib.hid (W1.out.below b)
      replace B3 := Lib.hid (B3.out.trans (b.mono B3.out.size))
      have R3 := Lib.hid r3
      clear b r3
      go_wp2_with fail
      refine (CC.out _ _ _ _ _ W1.out R3.out).mono ?_
      rintro e w4 ⟨rfl, b⟩
      replace W1 := Lib.hid (W1.out.below b)
      replace B3 := Lib.hid (B3.out.trans (b.mono B3.out.size))
      clear b
      go_wp2_with fail
      refine (CD.out _ _ _ W1.out).mono ?_
      rintro e w5 ⟨q5, c5, rfl, hc5, r5, b⟩
      replace W1 := Lib.hid (W1.out.below b)
      replace B3 := Lib.hid (B3.out.trans (b.mono B3.out.size))
      have R5 := Lib.hid r5
      clear b r5
      go_wp2_with fail
      refine (CE.out _ _ _ _ _ W1.out R5.out).mono ?_
      rintro e w6 ⟨rfl, b⟩
      replace B3 := Lib.hid (B3.out.trans (b.mono B3.out.size))
      clear b
      by_cases hr : r2 = 0
      · obtain ⟨h1, h2⟩ := hor.resolve_left (fun h => h hr)
        have e1 : (r2 == 0) = true := by rw [beq_iff_eq]; exact hr
        have e2 : (r2 != 0) = false := by rw [bne_eq_false_iff_eq]; exact hr
        have e3 : (y2 == 0) = true := by rw [beq_iff_eq]; exact h1
        have e4 : decide ((K : Int) ≤ (x2 : Int)) = true := decide_eq_true (by omega)
        have e5 : decide (K ≤ x2) = true := decide_eq_true h2
        clear hr hor h1 h2
        go_wp2_with fail
        go_ret
        exact ⟨rfl, B3.out⟩
      · have e1 : (r2 == 0) = false := by rw [beq_eq_false_iff_ne]; exact hr
        have e2 : (r2 != 0) = true := by rw [bne_iff_ne]; exact hr
        clear hr hor
        go_wp2_with fail
        go_ret
        exact ⟨rfl, B3.out⟩
end Go.Proofs.YtbegngilbngnoaaDoor.Tp
