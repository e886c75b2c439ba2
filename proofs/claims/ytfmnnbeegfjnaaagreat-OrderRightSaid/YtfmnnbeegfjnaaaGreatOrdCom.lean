/- The walk of the document's Common. -/
import Derived.Test.YtfmnnbeegfjnaaaGreatOrdNum
namespace Go.Proofs.YtfmnnbeegfjnaaaGreat.Od
open Go.RowKit Go.Lib Rw Nm Ls

theorem lcp_step (x y : List Nat) (m : Nat) (hx : m < x.length) (hy : m < y.length) : lcp (x.drop m) (y.drop m) = if x.getD m 0 = y.getD m 0 then lcp (x.drop (m + 1)) (y.drop (m + 1)) + 1 else 0 := by
  rw [List.drop_eq_getElem_cons hx, List.drop_eq_getElem_cons hy]
  simp only [lcp, List.getD_eq_getElem?_getD, List.getElem?_eq_getElem hx, List.getElem?_eq_getElem hy, Option.getD_some]
theorem lcp_nil_left (y : List Nat) : lcp [] y = 0 := by cases y <;> rfl
theorem lcp_nil_right (x : List Nat) : lcp x [] = 0 := by cases x <;> rfl
def comV (l P : List Nat) (i : Nat) : Nat := if i = 0 then 0 else lcp (l.drop (P.getD (i - 1) 0)) (l.drop (P.getD i 0))
theorem com_succ (l P : List Nat) (k : Nat) : com l P (k + 1) = com l P k ++ [comV l P k] := by
  unfold com comV
  rw [List.range_succ, List.map_append]; rfl
theorem com_length (l P : List Nat) (k : Nat) : (com l P k).length = k := by simp [com]
/-- what is there when so many are done -/
def comZ (l P : List Nat) (n k : Nat) : List Nat := com l P k ++ List.replicate (n - k) 0
theorem comZ_length {l P : List Nat} {n k : Nat} (h : k ≤ n) : (comZ l P n k).length = n := by simp [comZ, com_length]; omega
theorem comZ_set {l P : List Nat} {n k : Nat} (h : k < n) : (comZ l P n k).set k (comV l P k) = comZ l P n (k + 1) := by
  unfold comZ
  obtain ⟨d, hd⟩ : ∃ d, n - k = d + 1 := ⟨n - k - 1, by omega⟩
  rw [hd, show n - (k + 1) = d by omega, com_succ, List.set_append_right _ _ (by rw [com_length]; exact Nat.le_refl _), com_length, Nat.sub_self]
  simp [List.replicate_succ]
theorem comZ_at {l P : List Nat} {n k : Nat} (h : k < n) : (comZ l P n k).set k 0 = comZ l P n k := by
  unfold comZ
  obtain ⟨d, hd⟩ : ∃ d, n - k = d + 1 := ⟨n - k - 1, by omega⟩
  rw [hd, List.set_append_right _ _ (by rw [com_length]; exact Nat.le_refl _), com_length, Nat.sub_self]
  simp [List.replicate_succ]
def comL (l : List Nat) (E : List Int) : List Nat := if right l E = true then com l (ends l) l.length else []
def comE (l : List Nat) (E : List Int) : Int := if right l E = true then 0 else 2
/-- how far the number in a cell is from n -/
def mez (n g k : Nat) (w : World) : Nat := n - (intOf ((w.cell? ⟨g, k, none⟩).getD undef)).toNat
theorem mez_of {n g k v : Nat} {w : World} (h : w.cell? ⟨g, k, none⟩ = some (.int .i64 (v : Int))) : mez n g k w = n - v := by
  unfold mez; rw [h]; simp [intOf]
/-- the number in the cell goes up -/
def LcpR (l : List Nat) (n x y g k t : Nat) (C : List Nat) (w0 wr : World) : Prop := ∃ v : Nat, v ≤ n - x ∧ v ≤ n - y ∧ v + lcp ((l.drop x).drop v) ((l.drop y).drop v) = t ∧ Arr wr g 3 g n (zs (up (C.set k v))) ∧ Below g w0 wr
set_option maxHeartbeats 8000000 in
set_option maxRecDepth 100000 in
theorem rcommon_any (l : List Nat) (E : List Int) (p q : Option Addr) (c d : Nat) (w : World) (hp : Rd w p (nums l)) (hq : Rd w q (zs E)) (hlc : l.length ≤ c) (hl : l.length ≤ 17592186044416) (hE : E.length ≤ 17592186044416) :
    Calls Tryz.prog 15 #[.slice p l.length c, .slice q E.length d] w (PlacesP w (comL l E) (comE l E)) := by
  obtain ⟨i0, hi0, hz0, hz1, hz2⟩ := info_parts info_int
  have HC := Lib.hid (rright_any l E p q c d w hp hq hlc hl hE)
  cases hR : right l E with
  | false =>
    have F : Hid (comL l E = [] ∧ comE l E = 2) := Lib.hid (by unfold comL comE; rw [hR]; exact ⟨rfl, rfl⟩)
    rw [hR] at HC
    rw [F.out.1, F.out.2]
    clear hR
    go_enter Tryz.func15, Tryz.ntmps15
    go_wp2_with fail
    refine HC.out.mono ?_
    rintro e w1 ⟨rfl, b⟩
    have B1 := Lib.hid b
    clear b
    go_wp2_with fail
    refine bodyPost_ret (v := .tuple #[.slice none 0 0, .int .i64 2]) (by simp [results, Tryz.results15, go_sem]) rfl ?_
    exact places_no rfl B1.out
  | true =>
    have hEe := right_iff.1 hR
    rw [hR] at HC
    have F : Hid (comL l E = com l (ends l) l.length ∧ comE l E = 0) := Lib.hid (by unfold comL comE; rw [hR]; exact ⟨rfl, rfl⟩)
    clear hR
    subst hEe
    obtain ⟨n, hn⟩ : ∃ n, n = l.length := ⟨_, rfl⟩
    have hen : (up (ends l)).length = n := by rw [up_length, ends_length, hn]
    have HP := Lib.hid hp; have HQ := Lib.hid hq
    rw [hen] at HC hE ⊢
    rw [← hn] at hl hlc F HC ⊢
    have HN := Lib.hid hn
    clear hp hq hn hen
    go_enter Tryz.func15, Tryz.ntmps15
    go_wp2_with fail
    refine HC.out.mono ?_
    rintro e w1 ⟨rfl, b⟩
    have B1 := Lib.hid b
    have P1 := Lib.hid (HP.out.below b)
    have Q1 := Lib.hid (HQ.out.below b)
    clear b
    go_wp2_with (at_make; refine wpList_make_full _ rfl _ _ 23 rfl w1.heap.size 3 i0 (.int .i64 0) 1 Tryz.underlying23 hi0 hz0 hz1 .i64 .i64 ↑n ↑n n rfl rfl rfl rfl ?c1 ?c2 ?c3 ?_)
    case c1 => rw [hz2]; omega
    case c2 => unfold maxLen; omega
    case c3 => simp
    intro w2 hown2 hgr2
    have b2 : Below w1.heap.size w1 w2 := (Below.refl _ w1).grown hgr2 (Nat.le_refl _) (by simp)
    rw [toList_madeCells_one] at hown2
    obtain ⟨g, hg⟩ : ∃ g, g = w1.heap.size := ⟨_, rfl⟩
    rw [← hg] at hown2 b2 ⊢
    have A2 : Hid (Arr w2 g 3 g n (zs (up (comZ l (ends l) n 0)))) := Lib.hid (by
      have e : comZ l (ends l) n 0 = List.replicate n 0 := by simp [comZ, com]
      rw [e, ← zs_zeros]; exact hown2)
    have B2 := Lib.hid b2
    have HG := Lib.hid hg
    clear b2 hown2 hgr2 hg
    go_wp2_with fail
    go_loopw [19] (fun i wr => ∃ k : Nat, k ≤ n ∧ i = .int .i64 k ∧ Arr wr g 3 g n (zs (up (comZ l (ends l) n k))) ∧ Below g w1 wr) (fun i _ => n - (intOf i).toNat)
    case atStart => exact ⟨0, by omega, rfl, A2.out, B2.out⟩
    case round =>
      obtain ⟨k, hk, rfl, ha, hb⟩ := hrel
      have HA := Lib.hid ha; have HB := Lib.hid hb
      have P3 : Hid (Rd wr p (nums l)) := Lib.hid (P1.out.below (by rw [← HG.out]; exact hb))
      have Q3 : Hid (Rd wr q (zs (up (ends l)))) := Lib.hid (Q1.out.below (by rw [← HG.out]; exact hb))
      clear ha hb
      by_cases hlt : k < n
      · by_cases h0 : k = 0
        · subst h0
          have HA1 : Hid (Arr wr g 3 g n (zs (up (comZ l (ends l) n 1)))) := Lib.hid (by
            have := comZ_set (l := l) (P := ends l) hlt
            have e : comV l (ends l) 0 = 0 := rfl
            rw [e, comZ_at hlt] at this
            rw [← this]; exact HA.out)
          go_wp2_with fail
          go_roundw
          case rel => exact ⟨1, by omega, by go_num, HA1.out, HB.out⟩
          case measure => simp [intOf]; omega
        · obtain ⟨x, hx⟩ : ∃ x, x = (ends l).getD (k - 1) 0 := ⟨_, rfl⟩
          obtain ⟨y, hy⟩ : ∃ y, y = (ends l).getD k 0 := ⟨_, rfl⟩
          have hel := ends_length l
          rw [← HN.out] at hel
          have bd : ∀ i, i < n → (ends l).getD i 0 < n := fun i hi => by
            rw [HN.out]
            refine ends_mem.1 ?_
            rw [gd (by omega)]; exact List.getElem_mem _
          have hxm : x < n := by rw [hx]; exact bd _ (by omega)
          have hym : y < n := by rw [hy]; exact bd _ hlt
          obtain ⟨b, rfl, cx⟩ := rd_z Q3.out (k - 1) (by rw [up_length]; omega)
          obtain ⟨b', hbb, cy⟩ := rd_z Q3.out k (by rw [up_length]; omega)
          cases hbb
          rw [up_getD _ _ (by omega), ← hx] at cx
          rw [up_getD _ _ (by omega), ← hy] at cy
          obtain ⟨ad, rfl, _⟩ := P3.out.form (by rw [nums_length, ← HN.out]; omega)
          have HV : Hid (comV l (ends l) k = lcp (l.drop x) (l.drop y)) := Lib.hid (by unfold comV; rw [if_neg h0, hx, hy])
          have k0 : (0 : Int) < (k : Int) := by omega
          have tk : ((k : Int) == 0) = false := by rw [beq_eq_false_iff_ne]; omega
          have tk2 : (k == 0) = false := by rw [beq_eq_false_iff_ne]; exact h0
          have e1 : ((k : Int) - 1).toNat = k - 1 := by omega
          have k1 : (0 : Int) ≤ (k : Int) - 1 := by omega
          have k2 : (k : Int) - 1 < (n : Int) := by omega
          have k3 : (k : Int) < (n : Int) := by omega
          have k4 : (0 : Int) ≤ (k : Int) := by omega
          have x0 : (0 : Int) ≤ (x : Int) := by omega
          have y0 : (0 : Int) ≤ (y : Int) := by omega
          have x1 : (x : Int) ≤ (n : Int) := by omega
          have y1 : (y : Int) ≤ (n : Int) := by omega
          have cx1 : ¬ (c = x) := by omega
          have cy1 : ¬ (c = y) := by omega
          clear hx hy bd h0 hel
          go_wp2_with fail
          go_quiet (fail)
          go_wp2_with fail
          have hcl : (comZ l (ends l) n k).length = n := comZ_length hk
          have F0 : Hid (LcpR l n x y g k (comV l (ends l) k) (comZ l (ends l) n k) w1 (wr.drewN nq)) := Lib.hid ⟨0, by omega, by omega, by rw [HV.out, Nat.zero_add]; rfl, by rw [comZ_at hlt]; exact HA.out.drewN nq, below_drewN HB.out nq⟩
          obtain ⟨C, hC⟩ : ∃ C, C = comZ l (ends l) n k := ⟨_, rfl⟩
          obtain ⟨T, hT⟩ : ∃ T, T = comV l (ends l) k := ⟨_, rfl⟩
          rw [← hC] at hcl F0
          rw [← hT] at F0
          have HCE := Lib.hid hC; have HTE := Lib.hid hT; have HCL := Lib.hid hcl
          clear hC hT hcl cx cy
          go_loopw [] (fun wr => LcpR l n x y g k T C w1 wr) (fun wr => mez n g k wr)
          case atStart => exact F0.out
          case round =>
            obtain ⟨v, hvx, hvy, hv, ha, hb⟩ := hrel
            have HA2 := Lib.hid ha; have HB2 := Lib.hid hb
            have P4 : Hid (Rd wr (some ad) (nums l)) := Lib.hid (P1.out.below (by rw [← HG.out]; exact hb))
            have c1 : wr.cell? ⟨g, k, none⟩ = some (.int .i64 (v : Int)) := by
              have h1 := ha.cell hlt
              rw [zs_getD _ _ (by rw [up_length, List.length_set, HCL.out]; exact hlt), up_getD _ _ (by rw [List.length_set, HCL.out]; exact hlt), getD_set_self _ (by rw [HCL.out]; exact hlt)] at h1
              exact h1
            have f1 := ha.free k
            have MZ := Lib.hid (mez_of (n := n) c1)
            clear ha hb
            have hlx : (l.drop x).length = n - x := by rw [List.length_drop, ← HN.out]
            have hly : (l.drop y).length = n - y := by rw [List.length_drop, ← HN.out]
            have hex : ∀ (hne : v = T), Arr wr g 3 g n (zs (up (comZ l (ends l) n (k + 1)))) := fun hne => by
              have := HA2.out
              rw [hne, HTE.out, HCE.out, comZ_set hlt] at this
              exact this
            have HEX := Lib.hid hex
            clear hex
            have k3b : decide (k < n) = true := decide_eq_true hlt
            by_cases h1 : v < n - x
            case neg =>
              have hT : v = T := by rw [← hv, List.drop_eq_nil_of_le (by rw [hlx]; omega), lcp_nil_left, Nat.add_zero]
              have HAF := Lib.hid (HEX.out hT)
              have t1 : decide (v < n - x) = false := decide_eq_false h1
              clear h1 hv hT hlx hly
              go_wp2_with fail
              go_quiet (fail)
              go_wp2_with fail
              go_roundw
              case rel => exact ⟨k + 1, by omega, by go_num, HAF.out.drewN _, below_drewN HB2.out _⟩
              case measure => simp [intOf]; omega
            have t1 : decide (v < n - x) = true := decide_eq_true h1
            by_cases h2 : v < n - y
            case neg =>
              have hT : v = T := by rw [← hv, drop_nil (l.drop y) v (by rw [hly]; omega), lcp_nil_right, Nat.add_zero]
              have HAF := Lib.hid (HEX.out hT)
              have t2 : decide (v < n - y) = false := decide_eq_false h2
              clear h1 h2 hv hT hlx hly
              go_wp2_with fail
              go_quiet (fail)
              go_wp2_with fail
              go_roundw
              case rel => exact ⟨k + 1, by omega, by go_num, HAF.out.drewN _, below_drewN HB2.out _⟩
              case measure => simp [intOf]; omega
            have t2 : decide (v < n - y) = true := decide_eq_true h2
            have hxr := P4.out.cut x (by rw [nums_length, ← HN.out]; omega)
            have hyr := P4.out.cut y (by rw [nums_length, ← HN.out]; omega)
            have ex1 : (nums l).drop x = nums (l.drop x) := by simp [nums, List.map_drop]
            have ey1 : (nums l).drop y = nums (l.drop y) := by simp [nums, List.map_drop]
            rw [ex1] at hxr
            rw [ey1] at hyr
            obtain ⟨a1, ha1, ca⟩ := rd_num hxr v (by rw [hlx]; exact h1)
            obtain ⟨a2, ha2, cb⟩ := rd_num hyr v (by rw [hly]; exact h2)
            cases ha1
            cases ha2
            have hst := lcp_step (l.drop x) (l.drop y) v (by rw [hlx]; exact h1) (by rw [hly]; exact h2)
            obtain ⟨U, hU⟩ : ∃ U, U = (l.drop x).getD v 0 := ⟨_, rfl⟩
            obtain ⟨V, hV⟩ : ∃ V, V = (l.drop y).getD v 0 := ⟨_, rfl⟩
            rw [← hU] at hst ca
            rw [← hV] at hst cb
            have v0 : (0 : Int) ≤ (v : Int) := by omega
            have v1 : (v : Int) < ((n - x : Nat) : Int) := by omega
            have v2 : (v : Int) < ((n - y : Nat) : Int) := by omega
            clear hU hV ex1 ey1 hxr hyr
            by_cases he : U = V
            · rw [if_pos he] at hst
              have d1 : ((U : Int) == (V : Int)) = true := by rw [beq_iff_eq]; omega
              have d2 : (U == V) = true := by rw [beq_iff_eq]; exact he
              have HV2 : Hid (v + 1 + lcp ((l.drop x).drop (v + 1)) ((l.drop y).drop (v + 1)) = T) := Lib.hid (by rw [← hv, hst]; omega)
              have HS1 : Hid (∀ z, Arr ((wr.drewN z).setCell ⟨g, k, none⟩ (.int .i64 ((v : Int) + 1))) g 3 g n (zs (up (C.set k (v + 1))))) := Lib.hid (fun z => by
                have S1 := (HA2.out.drewN z).set k (.int .i64 ((v + 1 : Nat) : Int))
                rw [zs_set, up_set, List.set_set] at S1
                exact S1)
              have HB3 : Hid (∀ z, Below g w1 ((wr.drewN z).setCell ⟨g, k, none⟩ (.int .i64 ((v : Int) + 1)))) := Lib.hid (fun z => (HA2.out.drewN z).put (below_drewN HB2.out z) (Nat.le_refl _) k (.int .i64 ((v + 1 : Nat) : Int)))
              have HMZ : Hid (∀ z, mez n g k ((wr.drewN z).setCell ⟨g, k, none⟩ (.int .i64 ((v : Int) + 1))) < mez n g k wr) := Lib.hid (fun z => by
                rw [MZ.out]
                have h1 := (HS1.out z).cell hlt
                rw [zs_getD _ _ (by rw [up_length, List.length_set, HCL.out]; exact hlt), up_getD _ _ (by rw [List.length_set, HCL.out]; exact hlt), getD_set_self _ (by rw [HCL.out]; exact hlt)] at h1
                rw [mez_of h1]
                omega)
              have hle1 : v + 1 ≤ n - x := by omega
              have hle2 : v + 1 ≤ n - y := by omega
              clear h1 h2 hv hst he hlx hly
              go_wp2_with fail
              go_quiet (fail)
              go_wp2_with fail
              go_roundw
              case rel => exact ⟨v + 1, hle1, hle2, HV2.out, HS1.out _, HB3.out _⟩
              case measure => exact HMZ.out _
            · rw [if_neg he] at hst
              have hT : v = T := by rw [← hv, hst, Nat.add_zero]
              have HAF := Lib.hid (HEX.out hT)
              have d1 : ((U : Int) == (V : Int)) = false := by rw [beq_eq_false_iff_ne]; omega
              have d2 : (U == V) = false := by rw [beq_eq_false_iff_ne]; exact he
              clear h1 h2 hv hT hlx hly hst he
              go_wp2_with fail
              go_quiet (fail)
              go_wp2_with fail
              go_roundw
              case rel => exact ⟨k + 1, by omega, by go_num, HAF.out.drewN _, below_drewN HB2.out _⟩
              case measure => simp [intOf]; omega
      · obtain rfl : k = n := by omega
        have E1 : Hid (comZ l (ends l) k k = com l (ends l) k) := Lib.hid (by simp [comZ])
        have B3 : Hid (Below w.heap.size w wr) := Lib.hid (B1.out.trans (HB.out.mono (by rw [HG.out]; exact B1.out.size)))
        have ha := HA.out
        rw [E1.out] at ha
        have HA2 := Lib.hid ha
        clear ha
        go_wp2_with fail
        refine bodyPost_ret (v := .tuple #[.slice (some ⟨g, 0, none⟩) k k, .int .i64 0]) (by simp [results, Tryz.results15, go_sem]) rfl ?_
        rw [F.out.1, F.out.2]
        exact ⟨some ⟨g, 0, none⟩, k, by rw [com_length], by rw [com_length]; exact Nat.le_refl _, HA2.out.rd, fun a e => by cases e; rw [HG.out]; exact B1.out.size, Fz.of_own HA2.out _, B3.out⟩
end Go.Proofs.YtfmnnbeegfjnaaaGreat.Od
