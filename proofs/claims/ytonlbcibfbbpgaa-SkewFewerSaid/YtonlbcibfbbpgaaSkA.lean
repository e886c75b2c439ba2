/- The walks of the document's Check, At, triple, Places, Samples. -/
import Derived.Test.YtonlbcibfbbpgaaSkM
import Derived.Test.YtonlbcibfbbpgaaOrdNum
import Derived.Test.YtonlbcibfbbpgaaFit
namespace Go.Proofs.Ytonlbcibfbbpgaa.Sk
open Go.RowKit Go.Lib Rw Nm Ls Od

def chkS (l : List Nat) : Int := if okL l = true then 0 else 1
theorem chk_bad {l : List Nat} {k : Nat} (hk : k < l.length) (h : l.getD k 0 < 1 ∨ 1099511627776 ≤ l.getD k 0) : chkS l = 1 := by
  unfold chkS
  rw [if_neg]
  intro ho
  unfold okL at ho
  simp only [Bool.and_eq_true, List.all_eq_true, decide_eq_true_eq] at ho
  have := ho.2 l[k] (List.getElem_mem _)
  rw [gd hk] at h
  omega
theorem chk_ok {l : List Nat} (h1 : l.length ≤ 4096) (h : ∀ j, j < l.length → 1 ≤ l.getD j 0 ∧ l.getD j 0 < 1099511627776) : chkS l = 0 := by
  unfold chkS
  rw [if_pos]
  unfold okL
  simp only [Bool.and_eq_true, List.all_eq_true, decide_eq_true_eq]
  refine ⟨h1, fun x hx => ?_⟩
  obtain ⟨j, hj, rfl⟩ := List.getElem_of_mem hx
  have := h j hj
  rwa [gd hj] at this
theorem chk_long {l : List Nat} (h : 4096 < l.length) : chkS l = 1 := by
  unfold chkS
  rw [if_neg]
  intro ho
  unfold okL at ho
  simp only [Bool.and_eq_true, decide_eq_true_eq] at ho
  omega
theorem chk_cases (l : List Nat) : (okL l = true ∧ chkS l = 0) ∨ (okL l = false ∧ chkS l = 1) := by
  unfold chkS
  cases okL l
  · exact .inr ⟨rfl, rfl⟩
  · exact .inl ⟨rfl, rfl⟩
theorem ok_len {l : List Nat} (h : okL l = true) : l.length ≤ 4096 := by
  unfold okL at h
  simp only [Bool.and_eq_true, decide_eq_true_eq] at h
  exact h.1
set_option maxHeartbeats 2000000 in
set_option maxRecDepth 100000 in
theorem rchecks_any (l : List Nat) (p : Option Addr) (c : Nat) (w : World) (hp : Rd w p (nums l)) (hl : l.length ≤ 17592186044416) :
    Calls Try.prog 17 #[.slice p l.length c] w fun e w' => e = .returned (.int .i64 (chkS l)) ∧ w = w' := by
  have HP := Lib.hid hp
  obtain ⟨n, hn⟩ : ∃ n, n = l.length := ⟨_, rfl⟩
  have HN := Lib.hid hn
  rw [← hn] at hl ⊢
  by_cases hbig : 4096 < n
  · have F : Hid (1 = chkS l) := Lib.hid (chk_long (by rw [← hn]; exact hbig)).symm
    have t1 : decide ((4096 : Int) < (n : Int)) = true := decide_eq_true (by omega)
    have t2 : decide (4096 < n) = true := decide_eq_true hbig
    clear hp hn hbig
    go_enter Try.func17, Try.ntmps17
    go_wp2_with fail
    go_ret
    exact ⟨ret_int F.out, rfl⟩
  have t1 : decide ((4096 : Int) < (n : Int)) = false := decide_eq_false (by omega)
  have t2 : decide (4096 < n) = false := decide_eq_false hbig
  clear hp hn
  go_enter Try.func17, Try.ntmps17
  go_wp2_with fail
  go_loop [10] (fun i => ∃ k : Nat, k ≤ n ∧ i = .int .i64 k ∧ ∀ j, j < k → 1 ≤ l.getD j 0 ∧ l.getD j 0 < 1099511627776) (fun i => n - (intOf i).toNat)
  case atStart => exact ⟨0, by omega, rfl, fun j hj => by omega⟩
  case round =>
    obtain ⟨k, hk, rfl, hlo⟩ := hrel
    have HLO := Lib.hid hlo
    clear hlo
    by_cases hlt : k < n
    · obtain ⟨a, rfl, ca⟩ := rd_num HP.out k (by rw [← HN.out]; exact hlt)
      obtain ⟨u, hu⟩ : ∃ u, u = l.getD k 0 := ⟨_, rfl⟩
      rw [← hu] at ca
      have HU := Lib.hid hu
      clear hu
      by_cases h1 : u < 1
      · have F : Hid (1 = chkS l) := Lib.hid (chk_bad (k := k) (by rw [← HN.out]; exact hlt) (.inl (by rw [← HU.out]; exact h1))).symm
        have d1 : decide ((u : Int) < 1) = true := decide_eq_true (by omega)
        have d2 : decide (u < 1) = true := decide_eq_true h1
        clear h1
        go_wp2_with fail
        go_ret
        exact ⟨ret_int F.out, rfl⟩
      have d1 : decide ((u : Int) < 1) = false := decide_eq_false (by omega)
      have d2 : decide (u < 1) = false := decide_eq_false h1
      by_cases h2 : 1099511627776 ≤ u
      · have F : Hid (1 = chkS l) := Lib.hid (chk_bad (k := k) (by rw [← HN.out]; exact hlt) (.inr (by rw [← HU.out]; exact h2))).symm
        have d3 : decide ((1099511627776 : Int) ≤ (u : Int)) = true := decide_eq_true (by omega)
        have d4 : decide (1099511627776 ≤ u) = true := decide_eq_true h2
        clear h1 h2
        go_wp2_with fail
        go_ret
        exact ⟨ret_int F.out, rfl⟩
      have d3 : decide ((1099511627776 : Int) ≤ (u : Int)) = false := decide_eq_false (by omega)
      have d4 : decide (1099511627776 ≤ u) = false := decide_eq_false h2
      have HL2 : Hid (∀ j, j < k + 1 → 1 ≤ l.getD j 0 ∧ l.getD j 0 < 1099511627776) := Lib.hid (fun j hj => by
        by_cases e : j = k
        · rw [e, ← HU.out]; omega
        · exact HLO.out j (by omega))
      clear h1 h2
      go_wp2_with fail
      go_round
      case rel => exact ⟨k + 1, by omega, by go_num, HL2.out⟩
      case measure => simp [intOf]; omega
    · obtain rfl : k = n := by omega
      have F : Hid (0 = chkS l) := Lib.hid (chk_ok (by rw [← HN.out]; omega) (fun j hj => HLO.out j (by rw [HN.out]; exact hj))).symm
      go_wp2_with fail
      go_ret
      exact ⟨ret_int F.out, rfl⟩
theorem nums_mk {w w' : World} {L : List Nat} {n : Nat} {q : Option Addr} {c : Nat} (hL : L.length = n) (hc : n ≤ c) (hr : Rd w' q (nums L)) (hn : NewAt w.heap.size q) (hb : Below w.heap.size w w') : NumsP w L (.returned (.slice q n c)) w' := by
  subst hL; exact ⟨q, c, rfl, hc, hr, hn, hb⟩
/-- an answer that is a row of places in new memory -/
def IntsP (w : World) (L : List Nat) (e : Ending) (w' : World) : Prop := ∃ (q : Option Addr) (c : Nat), e = .returned (.slice q L.length c) ∧ L.length ≤ c ∧ Rd w' q (zs (up L)) ∧ NewAt w.heap.size q ∧ Below w.heap.size w w'
theorem ints_mk {w w' : World} {L : List Nat} {n : Nat} {q : Option Addr} {c : Nat} (hL : L.length = n) (hc : n ≤ c) (hr : Rd w' q (zs (up L))) (hn : NewAt w.heap.size q) (hb : Below w.heap.size w w') : IntsP w L (.returned (.slice q n c)) w' := by
  subst hL; exact ⟨q, c, rfl, hc, hr, hn, hb⟩
theorem rat_any (l : List Nat) (p : Option Addr) (n c i : Nat) (w : World) (hn : n = l.length) (hp : Rd w p (nums l)) :
    Calls Try.prog 41 #[.slice p n c, .int .i64 i] w fun e w' => e = .returned (.int .u64 (l.getD i 0 : Nat)) ∧ w = w' := by
  by_cases hlt : i < n
  · obtain ⟨a, rfl, ca⟩ := rd_num hp i (by rw [← hn]; exact hlt)
    obtain ⟨u, hu⟩ : ∃ u, u = l.getD i 0 := ⟨_, rfl⟩
    rw [← hu] at ca ⊢
    have t1 : decide (i < n) = true := decide_eq_true hlt
    have i0 : (0 : Int) ≤ (i : Int) := by omega
    clear hn hp hu
    go_enter Try.func41, Try.ntmps41
    go_wp2_with fail
    go_ret
    exact ⟨rfl, rfl⟩
  · have e : l.getD i 0 = 0 := at_end (by rw [← hn]; omega)
    have t1 : decide (i < n) = false := decide_eq_false hlt
    rw [e]
    clear hn hp e hlt
    go_enter Try.func41, Try.ntmps41
    go_wp2_with fail
    go_ret
    exact ⟨rfl, rfl⟩
theorem rtriple_any (l : List Nat) (p : Option Addr) (n c i : Nat) (w : World) (hn : n = l.length) (hp : Rd w p (nums l)) (hi : i ≤ 1000000) :
    Calls Try.prog 27 #[.slice p n c, .int .i64 i] w (NumsP w (triple l i)) := by
  have C0 := Lib.hid (rat_any l p n c i w hn hp)
  have C1 := Lib.hid (rat_any l p n c (i + 1) w hn hp)
  have C2 := Lib.hid (rat_any l p n c (i + 2) w hn hp)
  have e1 : ((i + 1 : Nat) : Int) = (i : Int) + 1 := by omega
  have e2 : ((i + 2 : Nat) : Int) = (i : Int) + 2 := by omega
  rw [e1] at C1
  rw [e2] at C2
  obtain ⟨x, hx⟩ : ∃ x, x = l.getD i 0 := ⟨_, rfl⟩
  obtain ⟨y, hy⟩ : ∃ y, y = l.getD (i + 1) 0 := ⟨_, rfl⟩
  obtain ⟨z, hz⟩ : ∃ z, z = l.getD (i + 2) 0 := ⟨_, rfl⟩
  have HT : Hid (nums (triple l i) = [.int .u64 (x : Int), .int .u64 (y : Int), .int .u64 (z : Int)] ∧ (triple l i).length = 3) := Lib.hid ⟨by unfold triple; rw [← hx, ← hy, ← hz]; rfl, rfl⟩
  rw [← hx] at C0
  rw [← hy] at C1
  rw [← hz] at C2
  have i0 : (0 : Int) ≤ (i : Int) := by omega
  have i1 : (i : Int) ≤ 1000000 := by omega
  have RN := Lib.hid (Rd.new w #[.int .u64 (x : Int), .int .u64 (y : Int), .int .u64 (z : Int)] 41)
  have RB : Hid (Below w.heap.size w (w.alloc (.cells #[.int .u64 (x : Int), .int .u64 (y : Int), .int .u64 (z : Int)] 41))) := Lib.hid ((Below.refl _ _).alloc (Nat.le_refl _) _)
  clear hn hp e1 e2 hx hy hz hi
  go_enter Try.func27, Try.ntmps27
  go_wp2_with fail
  refine C0.out.mono ?_
  rintro e w' ⟨rfl, rfl⟩
  go_wp2_with fail
  refine C1.out.mono ?_
  rintro e w' ⟨rfl, rfl⟩
  go_wp2_with fail
  refine C2.out.mono ?_
  rintro e w' ⟨rfl, rfl⟩
  go_wp2_with fail
  go_ret
  exact nums_mk HT.out.2 (Nat.le_refl _) (by rw [HT.out.1]; exact RN.out) (fun a e => by cases e; exact Nat.le_refl _) RB.out
theorem up_app (a b : List Nat) : up (a ++ b) = up a ++ up b := by simp [up]
theorem zs_app (a b : List Int) : zs (a ++ b) = zs a ++ zs b := by simp [zs]
/-- what is gathered when so many groups are done -/
def grp (n k : Nat) : List Nat := if k = 0 then [] else if k = 1 then g1 (top n) else places n
def gk (k j : Nat) : List Nat := if k = 0 then g1 j else g2 j
theorem grp_succ (n k : Nat) (h : k < 2) : grp n k ++ gk k (top n) = grp n (k + 1) := by
  rcases (show k = 0 ∨ k = 1 by omega) with rfl | rfl
  · simp [grp, gk]
  · simp [grp, gk, places]
theorem gk_succ (k j : Nat) (h : k < 2) : gk k (j + 1) = if j % 3 = k + 1 then gk k j ++ [j] else gk k j := by
  rcases (show k = 0 ∨ k = 1 by omega) with rfl | rfl
  · simp only [gk, if_true]; exact g1_succ j
  · simp only [gk]; exact g2_succ j
theorem gk_zero (k : Nat) : gk k 0 = [] := by unfold gk g1 g2; split <;> rfl
theorem gk_len (k j : Nat) : (gk k j).length ≤ j := by
  unfold gk g1 g2
  split <;> simp <;> omega
theorem grp_len (n k : Nat) : (grp n k).length ≤ n + 1 + (n + 1) := by
  have ht : top n ≤ n + 1 := by unfold top; split <;> omega
  unfold grp
  split
  · simp
  · split
    · have h := gk_len 0 (top n)
      have e : gk 0 (top n) = g1 (top n) := rfl
      rw [e] at h
      omega
    · rw [places_length]
      have := mm_le n
      omega
/-- a group under way -/
def PlR (n k g : Nat) (W1 : World) (v i : Value) (wq : World) : Prop := ∃ (j m : Nat) (O : List Nat), j ≤ top n ∧ i = .int .i64 j ∧ O = grp n k ++ gk k j ∧ m = O.length ∧ wq.ownsRow (g + 1) 3 1 v m (zs (up O)) ∧ Below (g + 1) W1 wq
/-- groups done -/
def PlQ (n g : Nat) (W1 : World) (v i : Value) (wq : World) : Prop := ∃ (k m : Nat) (O : List Nat), k ≤ 2 ∧ i = .int .i64 k ∧ O = grp n k ∧ m = O.length ∧ wq.ownsRow (g + 1) 3 1 v m (zs (up O)) ∧ Below (g + 1) W1 wq
set_option maxHeartbeats 4000000 in
set_option maxRecDepth 100000 in
theorem rplaces_any (n : Nat) (w : World) (hn : n ≤ 1000000) :
    Calls Try.prog 24 #[.int .i64 n] w (IntsP w (places n)) := by
  obtain ⟨i0, hi0, hz0, hz1, hz2⟩ := info_parts info_int
  obtain ⟨g, hg⟩ : ∃ g, g = w.heap.size := ⟨_, rfl⟩
  obtain ⟨W1, hW1⟩ : ∃ W1, W1 = w.alloc (.cells #[.int .i64 1, .int .i64 2] 3) := ⟨_, rfl⟩
  have hs1 : W1.heap.size = g + 1 := by rw [hW1, hg]; simp
  have bx : Bx W1 g [.int .i64 1, .int .i64 2] := by rw [hW1, hg]; exact Bx.new w #[.int .i64 1, .int .i64 2] 3
  have hb1 : Below w.heap.size w W1 := by rw [hW1]; exact (Below.refl _ _).alloc (Nat.le_refl _) _
  have HG := Lib.hid hg; have HW1 := Lib.hid hW1; have HS1 := Lib.hid hs1; have BX := Lib.hid bx; have HB1 := Lib.hid hb1
  clear hW1 hs1 bx hb1
  have n0 : (0 : Int) ≤ (n : Int) := by omega
  obtain ⟨r, hr⟩ : ∃ r, r = n % 3 := ⟨_, rfl⟩
  have e3 : (n : Int) % 3 = (r : Int) := by omega
  have HRR := Lib.hid hr
  have r3 : r < 3 := by omega
  clear hr
  go_enter Try.func24, Try.ntmps24
  go_wp2_with fail
  rw [← HW1.out, ← hg]
  clear hg
  go_loopw [3, 9] (fun v i wr => PlQ n g W1 v i wr) (fun _ i _ => 2 - (intOf i).toNat)
  case atStart => exact ⟨0, 0, [], by omega, rfl, rfl, rfl, World.ownsRow_nil _ _ _ _, Below.refl _ _⟩
  case round =>
    obtain ⟨k, m, O, hk, rfl, hOe, hm, ho, hb⟩ := hrel
    have HO := Lib.hid ho; have HB := Lib.hid hb; have HOE := Lib.hid hOe; have HM := Lib.hid hm
    have hml : m ≤ n + 1 + (n + 1) := by rw [hm, hOe]; exact grp_len n k
    clear ho hb hOe hm
    by_cases hlt : k < 2
    · have bx2 : Bx wr g [.int .i64 1, .int .i64 2] := BX.out.below (by rw [HS1.out]; exact HB.out)
      have cx : wr.cell? ⟨g, k, none⟩ = some (.int .i64 ((k : Int) + 1)) := by
        rcases (show k = 0 ∨ k = 1 by omega) with rfl | rfl
        · exact bx2.cell 0 (by simp)
        · exact bx2.cell 1 (by simp)
      clear bx2
      have k0 : (0 : Int) ≤ (k : Int) := by omega
      have tk : decide ((k : Int) < 2) = true := decide_eq_true (by omega)
      have tk2 : decide (k < 2) = true := decide_eq_true hlt
      go_wp2_with fail
      go_loopw [3, 6] (fun v i wq => PlR n k g W1 v i wq) (fun _ i _ => top n - (intOf i).toNat)
      case atStart => exact ⟨0, m, O, by omega, rfl, by rw [gk_zero, List.append_nil]; exact HOE.out, HM.out, HO.out, HB.out⟩
      case round =>
        obtain ⟨j, m2, O2, hj, rfl, hOe2, hm2, ho2, hb2⟩ := hrel
        have HO2 := Lib.hid ho2; have HB2 := Lib.hid hb2; have HOE2 := Lib.hid hOe2; have HM2 := Lib.hid hm2
        have hsz := hb2.size
        have hsz2 : g + 1 ≤ wr.heap.size := by have := HS1.out; omega
        have hml2 : m2 ≤ 1000000000 := by
          have h1 := gk_len k j
          have h2 := grp_len n k
          have ht : top n ≤ n + 1 := by unfold top; split <;> omega
          rw [hm2, hOe2, List.length_append]; omega
        have hT : (r = 1 ∧ top n = n + 1) ∨ (r ≠ 1 ∧ top n = n) := by rw [HRR.out]; unfold top; split <;> omega
        clear ho2 hb2 hOe2 hm2
        by_cases hgo : j < top n
        · have hcond : (decide (j < n) = true) ∨ (decide (j < n) = false ∧ ((j : Int) == (n : Int)) = true ∧ ((r : Int) == 1) = true ∧ (j == n) = true ∧ (r == 1) = true) := by
            by_cases h : j < n
            · exact .inl (decide_eq_true h)
            · refine .inr ⟨decide_eq_false h, ?_⟩
              simp only [beq_iff_eq]
              omega
          obtain ⟨s, hs⟩ : ∃ s, s = j % 3 := ⟨_, rfl⟩
          have e4 : (j : Int) % 3 = (s : Int) := by omega
          have j0 : (0 : Int) ≤ (j : Int) := by omega
          have hst := gk_succ k j hlt
          rw [← hs] at hst
          have hjn : j ≤ 1000000 := by omega
          have HMS : Hid (top n - (j + 1) < top n - j) := Lib.hid (by omega)
          have HLE : Hid (j + 1 ≤ top n) := Lib.hid hgo
          clear hs hT hj hgo
          by_cases hm : s = k + 1
          · rw [if_pos hm] at hst
            have HLN : Hid (O2 ++ [j] = grp n k ++ gk k (j + 1)) := Lib.hid (by rw [hst, HOE2.out, List.append_assoc])
            have HLM : Hid (m2 + 1 = (O2 ++ [j]).length) := Lib.hid (by rw [List.length_append, ← HM2.out]; rfl)
            have HZ : Hid (zs (up O2) ++ [.int .i64 (j : Int)] = zs (up (O2 ++ [j]))) := Lib.hid (by rw [up_app, zs_app]; rfl)
            have t5 : ((s : Int) == (k : Int) + 1) = true := by rw [beq_iff_eq]; omega
            clear hst hm
            rcases hcond with v1 | ⟨v1, v2, v3, v4, v5⟩
            all_goals
              go_wp2_with (at_builtin; refine Rw.push rfl _ _ 24 rfl (g + 1) 3 i0 (.int .i64 0) 1 8 Try.underlying24 hi0 hz0 hz1 hz2 rfl (by decide) _ _ _ rfl HO2.out [.int .i64 (j : Int)] rfl rfl rfl hml2 (by omega) hsz2 ?_)
              intro g4 cap4 w4 hown4 _ _ _ hgr
              rw [HZ.out] at hown4
              have H3 := Lib.hid hown4
              have H4 := Lib.hid (HB2.out.trans hgr)
              clear hown4 hgr
              go_wp2_with fail
              go_roundw
              case rel => first
                | exact ⟨j + 1, m2 + 1, _, HLE.out, by go_num, HLN.out, HLM.out, H3.out, H4.out⟩
                | ((repeat apply Exists.intro); exact ⟨⟨j + 1, m2 + 1, _, HLE.out, by go_num, HLN.out, HLM.out, H3.out, H4.out⟩, rfl⟩)
              case measure => exact HMS.out
          · rw [if_neg hm] at hst
            have HLN : Hid (O2 = grp n k ++ gk k (j + 1)) := Lib.hid (by rw [hst, HOE2.out])
            have t5 : ((s : Int) == (k : Int) + 1) = false := by rw [beq_eq_false_iff_ne]; omega
            clear hst hm
            rcases hcond with v1 | ⟨v1, v2, v3, v4, v5⟩
            all_goals
              go_wp2_with fail
              go_roundw
              case rel => exact ⟨j + 1, m2, O2, HLE.out, by go_num, HLN.out, HM2.out, HO2.out, HB2.out⟩
              case measure => exact HMS.out
        · have hjt : j = top n := by omega
          have HLN : Hid (O2 = grp n (k + 1)) := Lib.hid (by rw [HOE2.out, hjt, grp_succ n k hlt])
          have hcond : (decide (j < n) = false ∧ ((j : Int) == (n : Int)) = false ∧ (j == n) = false) ∨ (decide (j < n) = false ∧ ((j : Int) == (n : Int)) = true ∧ (j == n) = true ∧ ((r : Int) == 1) = false ∧ (r == 1) = false) := by
            simp only [decide_eq_false_iff_not, beq_eq_false_iff_ne, beq_iff_eq, ne_eq]
            omega
          have hk1 : k + 1 ≤ 2 := by omega
          clear hT hj hgo hjt
          rcases hcond with ⟨v1, v2, v3⟩ | ⟨v1, v2, v3, v4, v5⟩
          all_goals
            go_wp2_with fail
            go_roundw
            case rel => exact ⟨k + 1, m2, O2, hk1, by go_num, HLN.out, HM2.out, HO2.out, HB2.out⟩
            case measure => simp [intOf]; omega
    · obtain rfl : k = 2 := by omega
      have E : Hid (O = places n) := Lib.hid HOE.out
      obtain ⟨q, c, rfl, hc, hr, hnew⟩ := own_rdN HO.out
      have HR := Lib.hid hr; have HN := Lib.hid hnew
      have B9 : Hid (Below w.heap.size w wr) := Lib.hid (HB1.out.trans (HB.out.mono (by rw [← HG.out]; omega)))
      clear hr hnew
      go_wp2_with fail
      go_ret
      exact ints_mk (by rw [← E.out, HM.out]) hc (by rw [← E.out]; exact HR.out) (fun a e => by have := HN.out a e; have := HG.out; omega) B9.out
end Go.Proofs.Ytonlbcibfbbpgaa.Sk
