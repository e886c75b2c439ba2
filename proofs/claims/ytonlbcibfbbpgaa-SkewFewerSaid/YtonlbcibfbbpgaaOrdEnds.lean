/- The walk of the document's Ends. -/
import Derived.Test.YtonlbcibfbbpgaaOrdNum
import Derived.Test.YtonlbcibfbbpgaaStepRd
namespace Go.Proofs.Ytonlbcibfbbpgaa.Od
open Go.RowKit Go.Op Go.Lib Rw Nm Ls

theorem up_app (a b : List Nat) : up (a ++ b) = up a ++ up b := by simp [up]
theorem zs_app (a b : List Int) : zs (a ++ b) = zs a ++ zs b := by simp [zs]
theorem zs_up_take (L : List Nat) (k : Nat) : (zs (up L)).take k = zs (up (L.take k)) := by simp [zs, up, List.map_take]
theorem zs_up_drop (L : List Nat) (k : Nat) : (zs (up L)).drop k = zs (up (L.drop k)) := by simp [zs, up, List.map_drop]
/-- so many ends put in -/
def EndsR (w : World) (p : Option Addr) (l : List Nat) (n : Nat) (v i : Value) (wr : World) : Prop := ∃ (k : Nat) (A : Option Addr) (cap : Nat), k ≤ n ∧ i = .int .i64 k ∧ v = .slice A k cap ∧ k ≤ cap ∧ (A = none ∧ k = 0 ∨ ∃ g, A = some ⟨g, 0, none⟩) ∧ Rd wr A (zs (up (endsT l k))) ∧ (∀ a, A = some a → w.heap.size ≤ a.block) ∧ Fz wr A k ∧ Rd wr p (nums l) ∧ Below w.heap.size w wr
/-- the place goes down -/
def SpotR (l : List Nat) (k : Nat) (V : World) (a : Value) (wr : World) : Prop := ∃ s j : Nat, s ≤ k ∧ a = .int .i64 s ∧ spot l k (endsT l k) s = spot l k (endsT l k) k ∧ wr = V.drewN j
theorem cut_places {w : World} {g k cap s : Nat} {M : List Nat} (h : Rd w (some ⟨g, 0, none⟩) (zs (up M))) (hel : M.length = k) (ks : k ≤ cap) (hs : s ≤ k) : Rd w (if cap = s then some (⟨g, 0, none⟩ : Addr) else some ⟨g, s, none⟩) (zs (up (M.drop s))) := by
  rw [← zs_up_drop]
  by_cases e : s < k
  · rw [if_neg (by omega)]
    have := h.cut s (by rw [zs_length, up_length]; omega)
    simpa [Addr.add_lit] using this
  · rw [List.drop_eq_nil_of_le (by rw [zs_length, up_length]; omega)]
    exact Rd.nil _ _
theorem drop_none {w : World} {k s : Nat} {M : List Nat} (_ : Rd w none (zs (up M))) (hel : M.length = k) (hk : k = 0) : Rd w none (zs (up (M.drop s))) := by
  rw [← zs_up_drop, List.drop_eq_nil_of_le (by rw [zs_length, up_length]; omega)]
  exact Rd.nil _ _
theorem rends_no (l : List Nat) (p : Option Addr) (c : Nat) (w : World) (hl : l.length ≤ 17592186044416) (h : 4096 < l.length) :
    Calls Try.prog 33 #[.slice p l.length c] w (PlacesP w [] 1) := by
  obtain ⟨n, hn⟩ : ∃ n, n = l.length := ⟨_, rfl⟩
  rw [← hn] at hl h ⊢
  clear hn
  have t : decide ((4096 : Int) < (n : Int)) = true := decide_eq_true (by omega)
  have t2 : decide (4096 < n) = true := decide_eq_true (by omega)
  clear h
  go_enter Try.func33, Try.ntmps33
  go_wp2_with fail
  refine bodyPost_ret (v := .tuple #[.slice none 0 0, .int .i64 1]) (by simp [results, Try.results33, go_sem]) rfl ?_
  exact places_no rfl (Below.refl _ _)
set_option maxHeartbeats 16000000 in
set_option maxRecDepth 100000 in
theorem rends_any (l : List Nat) (p : Option Addr) (c : Nat) (w : World) (hp : Rd w p (nums l)) (hlc : l.length ≤ c) (hl : l.length ≤ 4096) :
    Calls Try.prog 33 #[.slice p l.length c] w (PlacesP w (ends l) 0) := by
  obtain ⟨i0, hi0, hz0, hz1, hz2⟩ := info_parts info_int
  obtain ⟨n, hn⟩ : ∃ n, n = l.length := ⟨_, rfl⟩
  have HP := Lib.hid hp
  rw [← hn] at hl hlc ⊢
  have HN := Lib.hid hn
  have t : decide ((4096 : Int) < (n : Int)) = false := decide_eq_false (by omega)
  have t2 : decide (4096 < n) = false := decide_eq_false (by omega)
  clear hp hn
  go_enter Try.func33, Try.ntmps33
  go_wp2_with fail
  clear t t2
  go_loopw [4, 12] (fun v i wr => EndsR w p l n v i wr) (fun _ i _ => n - (intOf i).toNat)
  case atStart => exact ⟨0, none, 0, by omega, rfl, rfl, by omega, .inl ⟨rfl, rfl⟩, Rd.nil _ _, fun a e => (by cases e), Fz.zero _ _, HP.out, Below.refl _ _⟩
  case round =>
    obtain ⟨k, A, cap, hk, rfl, rfl, hkc, hA, hr, hnew, hfz, hlr, hb⟩ := hrel
    have HR := Lib.hid hr; have HNW := Lib.hid hnew; have HB := Lib.hid hb; have HLR := Lib.hid hlr; have HFZ := Lib.hid hfz
    clear hr hnew hb hlr hfz
    by_cases hlt : k < n
    · have k1 : (k : Int) < (n : Int) := by omega
      obtain ⟨W1, rfl⟩ : ∃ W1, W1 = wr := ⟨wr, rfl⟩
      rcases hA with ⟨rfl, hk0⟩ | ⟨g, rfl⟩
      · have HK0 := Lib.hid hk0
        clear hk0
        go_wp2_with fail
        go_loopw [6] (fun a wq => SpotR l k W1 a wq) (fun a _ => (intOf a).toNat)
        case atStart => exact ⟨k, 0, by omega, rfl, rfl, rfl⟩
        case round =>
          obtain ⟨s, j, hs, rfl, hsp, hw⟩ := hrel
          have HW := Lib.hid hw; have HSP := Lib.hid hsp
          have R2 : Hid (Rd wr none (zs (up (endsT l k)))) := Lib.hid (by rw [hw]; exact HR.out.drewN j)
          have L2 : Hid (Rd wr p (nums l)) := Lib.hid (by rw [hw]; exact HLR.out.drewN j)
          have B2 : Hid (∀ z, Below w.heap.size w (wr.drewN z)) := Lib.hid (fun z => by rw [hw]; exact below_drewN (below_drewN HB.out j) z)
          clear hw hsp
          have hel := endsT_length l k
          by_cases hgo : 0 < s ∧ lt l k ((endsT l k).getD (s - 1) 0) = true
          · have := HK0.out; omega
          · have HSP2 : Hid (spot l k (endsT l k) k = s) := Lib.hid (by
              rw [← HSP.out]
              cases s with
              | zero => rfl
              | succ s' =>
                rw [spot, if_neg (fun h => hgo ⟨by omega, by simpa using h⟩)])
            have hor : s = 0 ∨ (0 < s ∧ lt l k ((endsT l k).getD (s - 1) 0) = false) := by
              rcases Nat.eq_zero_or_pos s with h | h
              · exact .inl h
              · refine .inr ⟨h, ?_⟩
                cases hb : lt l k ((endsT l k).getD (s - 1) 0) with
                | false => rfl
                | true => exact absurd ⟨h, hb⟩ hgo
            clear hgo HSP
            have HSP := HSP2
            clear HSP2
            have ks : s ≤ cap := by omega
            rcases hor with h | ⟨h, hlf⟩
            · have ts : decide ((0 : Int) < (s : Int)) = false := decide_eq_false (by omega)
              have ts2 : decide (0 < s) = false := decide_eq_false (by omega)
              clear h
              go_wp2_with fail
              go_quiet (fail)
              go_wp2_with fail
              obtain ⟨V, hVV⟩ : ∃ V, V = wr.drewN nq := ⟨_, rfl⟩
              have bV : Below w.heap.size w V := by rw [hVV]; exact B2.out nq
              have LV : Hid (Rd V p (nums l)) := Lib.hid (by rw [hVV]; exact L2.out.drewN nq)
              have e2 : Rd V none (zs (up (endsT l k))) := by rw [hVV]; exact R2.out.drewN nq
              rw [← hVV]
              obtain ⟨hV, hhV⟩ : ∃ hV, hV = V.heap.size := ⟨_, rfl⟩
              have hwV : w.heap.size ≤ hV := by rw [hhV]; exact bV.size
              obtain ⟨BBp, hBBp⟩ : ∃ BBp : World → Prop, BBp = fun W => Below hV V W := ⟨_, rfl⟩
              have H0 : Hid (BBp V) := Lib.hid (by rw [hBBp]; exact Below.refl _ _)
              have HBs : Hid (∀ W, BBp W → hV ≤ W.heap.size) := Lib.hid (fun W hh => by rw [hBBp] at hh; have := hh.size; omega)
              have HDd : Hid (∀ W, BBp W → BBp W.drew) := Lib.hid (fun W hh => by rw [hBBp] at hh ⊢; exact hh.drew)
              have HAl : Hid (∀ W o, BBp W → BBp (W.alloc o)) := Lib.hid (fun W o hh => by
                have := HBs.out W hh
                rw [hBBp] at hh ⊢
                exact hh.alloc this o)
              have HTr : Hid (∀ W W', BBp W → Below hV W W' → BBp W') := Lib.hid (fun W W' hh hb => by rw [hBBp] at hh ⊢; exact hh.trans hb)
              have HRp : Hid (∀ W, BBp W → Rd W none (zs (up ((endsT l k).take s)))) := Lib.hid (fun W hh => by
                rw [hBBp, hhV] at hh
                have := (e2.below hh).take s
                rwa [zs_up_take] at this)
              have HRs : Hid (∀ W, BBp W → Rd W none (zs (up ((endsT l k).drop s)))) := Lib.hid (fun W hh => by
                rw [hBBp, hhV] at hh
                have := e2.below hh
                exact drop_none this hel HK0.out)
              have HEm : Hid (∀ W g', BBp W → g' = W.heap.size → (W.alloc (.cells #[] 3)).ownsRow hV 3 1 (.slice (some ⟨g', 0, none⟩) 0 0) 0 []) := Lib.hid (fun W g' hh e => by
                subst e
                exact World.ownsRow_lit (e := 3) (base := hV) (size := 1) W #[] 0 (HBs.out W hh) (by decide) rfl)
              have HXn : Hid (∀ W g', BBp W → g' = W.heap.size → Rd (W.alloc (.cells #[.int .i64 ↑k] 3)) (some ⟨g', 0, none⟩) [.int .i64 ↑k]) := Lib.hid (fun W g' hh e => by
                subst e
                exact Rd.new W #[.int .i64 ↑k] 3)
              have hel := endsT_length l k
              have HLk : Hid ((zs (up ((endsT l k).take s))).length = s * 1 ∧ (zs (up ((endsT l k).drop s))).length = (k - s) * 1) := Lib.hid ⟨by rw [zs_length, up_length, List.length_take, hel]; omega, by rw [zs_length, up_length, List.length_drop, hel]; omega⟩
              have HM : Hid (0 + s ≤ maxLen ∧ (0 + s) * 8 ≤ 140737488355328 ∧ s + 1 ≤ maxLen ∧ (s + 1) * 8 ≤ 140737488355328 ∧ s + 1 + (k - s) ≤ maxLen ∧ (s + 1 + (k - s)) * 8 ≤ 140737488355328) := Lib.hid (by unfold maxLen; omega)
              have HOne : Hid (∀ u ∈ [Value.int .i64 (k : Int)], u.oneCell' = true) := Lib.hid (by intro u hu; simp only [List.mem_cons, List.not_mem_nil, or_false] at hu; subst hu; rfl)
              have HOne1 : Hid (∀ u ∈ zs (up ((endsT l k).take s)), u.oneCell' = true) := Lib.hid (zs_one _)
              have HOne3 : Hid (∀ u ∈ zs (up ((endsT l k).drop s)), u.oneCell' = true) := Lib.hid (zs_one _)
              have HIns : Hid (zs (up ((endsT l k).take s)) ++ [Value.int .i64 (k : Int)] ++ zs (up ((endsT l k).drop s)) = zs (up (endsT l (k + 1))) ∧ s + 1 + (k - s) = k + 1) := Lib.hid ⟨by
                rw [endsT, ins, hel, HSP.out, up_app, up_app, zs_app, zs_app]; rfl, by omega⟩
              have HWt : Hid (∀ W g3 c3, BBp W → W.ownsRow hV 3 1 (.slice (some ⟨g3, 0, none⟩) (s + 1 + (k - s)) c3) (s + 1 + (k - s)) (zs (up ((endsT l k).take s)) ++ [Value.int .i64 (k : Int)] ++ zs (up ((endsT l k).drop s))) → EndsR w p l n (.slice (some ⟨g3, 0, none⟩) (s + 1 + (k - s)) c3) (.int .i64 (↑k + 1)) W) := Lib.hid (fun W g3 c3 hh ho => by
                rw [HIns.out.1, HIns.out.2] at ho
                rw [HIns.out.2]
                have hcap : k + 1 ≤ c3 := by
                  obtain ⟨q, c, he, hc, _, _⟩ := own_rdN ho
                  cases he
                  exact hc
                have hnew := own_ge ho
                rw [hBBp] at hh
                have hb3 := bV.trans (hh.mono hwV)
                exact ⟨k + 1, some ⟨g3, 0, none⟩, c3, by omega, by go_num, rfl, hcap, .inr ⟨g3, rfl⟩, Rd.of_own ho, fun a e => by cases e; exact Nat.le_trans hwV (hnew g3 rfl), Fz.of_own ho _, by
                  rw [hhV] at hh; exact LV.out.below hh, hb3⟩)
              clear hBBp e2 bV hVV hel
              go_region_law (first
                | (refine step_appendRd (by rfl) _ _ 24 (by rfl) hV 3 i0 (.int .i64 0) 1 8 Try.underlying24 hi0 hz0 hz1 hz2 (by rfl) (by decide) _ 0 0 [] rfl none s cap (zs (up ((endsT l k).take s))) rfl HLk.out.1 HOne1.out HM.out.1 HM.out.2.1 (by repeat (first | exact HEm.out _ _ (by repeat (first | exact H0.out | assumption | apply HDd.out | apply HAl.out)) (by simp; done) | exact HEm.out _ _ (by repeat (first | exact H0.out | assumption | apply HDd.out | apply HAl.out)) rfl | refine own_below ?_ (Below.drew (Below.refl _ _)) | refine own_below ?_ ((Below.refl _ _).alloc (Nat.le_refl _) _))) (HRp.out _ (by repeat (first | exact H0.out | assumption | apply HDd.out | apply HAl.out))) (HBs.out _ (by repeat (first | exact H0.out | assumption | apply HDd.out | apply HAl.out))) ?_
                   intro g1 c1 w1 hown1 (hgr1 : ((V.alloc (.cells #[] 3)).alloc (.cells #[.int .i64 ↑k] 3)).drew.grownBy w1 (some V.heap.size)) hb1
                   have hx1 : Hid (Rd w1 (some ⟨V.heap.size + 1, 0, none⟩) [.int .i64 ↑k]) := Lib.hid (rd_grown (by repeat (first | exact HXn.out _ _ (by repeat (first | exact H0.out | assumption | apply HDd.out | apply HAl.out)) (by simp; done) | exact HXn.out _ _ (by repeat (first | exact H0.out | assumption | apply HDd.out | apply HAl.out)) rfl | refine Rd.below ?_ (Below.drew (Below.refl _ _)) | refine Rd.below ?_ ((Below.refl _ _).alloc (Nat.le_refl _) _))) hgr1 (fun k e => by cases e; omega))
                   have bb1 := HTr.out _ _ (by repeat (first | exact H0.out | assumption | apply HDd.out | apply HAl.out)) hb1
                   simp only [Nat.zero_add, List.nil_append] at hown1
                   have HOW1 := Lib.hid hown1
                   clear hown1 hgr1 hb1)
                | (refine step_appendRd (by rfl) _ _ 24 (by rfl) hV 3 i0 (.int .i64 0) 1 8 Try.underlying24 hi0 hz0 hz1 hz2 (by rfl) (by decide) _ 0 0 [] rfl none s cap (zs (up ((endsT l k).take s))) rfl HLk.out.1 HOne1.out HM.out.1 HM.out.2.1 (by repeat (first | exact HEm.out _ _ (by repeat (first | exact H0.out | assumption | apply HDd.out | apply HAl.out)) (by simp; done) | exact HEm.out _ _ (by repeat (first | exact H0.out | assumption | apply HDd.out | apply HAl.out)) rfl | refine own_below ?_ (Below.drew (Below.refl _ _)) | refine own_below ?_ ((Below.refl _ _).alloc (Nat.le_refl _) _))) (HRp.out _ (by repeat (first | exact H0.out | assumption | apply HDd.out | apply HAl.out))) (HBs.out _ (by repeat (first | exact H0.out | assumption | apply HDd.out | apply HAl.out))) ?_
                   intro g1 c1 w1 hown1 (hgr1 : ((V.alloc (.cells #[.int .i64 ↑k] 3)).alloc (.cells #[] 3)).drew.grownBy w1 (some (V.heap.size + 1))) hb1
                   have hx0 : Hid (Rd w1 (some ⟨V.heap.size, 0, none⟩) [.int .i64 ↑k]) := Lib.hid (rd_grown (by repeat (first | exact HXn.out _ _ (by repeat (first | exact H0.out | assumption | apply HDd.out | apply HAl.out)) (by simp; done) | exact HXn.out _ _ (by repeat (first | exact H0.out | assumption | apply HDd.out | apply HAl.out)) rfl | refine Rd.below ?_ (Below.drew (Below.refl _ _)) | refine Rd.below ?_ ((Below.refl _ _).alloc (Nat.le_refl _) _))) hgr1 (fun k e => by cases e; omega))
                   have bb1 := HTr.out _ _ (by repeat (first | exact H0.out | assumption | apply HDd.out | apply HAl.out)) hb1
                   simp only [Nat.zero_add, List.nil_append] at hown1
                   have HOW1 := Lib.hid hown1
                   clear hown1 hgr1 hb1)
                | (refine step_appendRd (by rfl) _ _ 24 (by rfl) hV 3 i0 (.int .i64 0) 1 8 Try.underlying24 hi0 hz0 hz1 hz2 (by rfl) (by decide) _ 0 0 [] rfl none s cap (zs (up ((endsT l k).take s))) rfl HLk.out.1 HOne1.out HM.out.1 HM.out.2.1 (by repeat (first | exact HEm.out _ _ (by repeat (first | exact H0.out | assumption | apply HDd.out | apply HAl.out)) (by simp; done) | exact HEm.out _ _ (by repeat (first | exact H0.out | assumption | apply HDd.out | apply HAl.out)) rfl | refine own_below ?_ (Below.drew (Below.refl _ _)) | refine own_below ?_ ((Below.refl _ _).alloc (Nat.le_refl _) _))) (HRp.out _ (by repeat (first | exact H0.out | assumption | apply HDd.out | apply HAl.out))) (HBs.out _ (by repeat (first | exact H0.out | assumption | apply HDd.out | apply HAl.out))) ?_
                   intro g1 c1 w1 hown1 hgr1 hb1
                   have bb1 := HTr.out _ _ (by repeat (first | exact H0.out | assumption | apply HDd.out | apply HAl.out)) hb1
                   simp only [Nat.zero_add, List.nil_append] at hown1
                   have HOW1 := Lib.hid hown1
                   clear hown1 hgr1 hb1)
                | (refine step_appendRd (by rfl) _ _ 24 (by rfl) hV 3 i0 (.int .i64 0) 1 8 Try.underlying24 hi0 hz0 hz1 hz2 (by rfl) (by decide) g1 s c1 (zs (up ((endsT l k).take s))) rfl (some ⟨_, 0, none⟩) 1 1 [.int .i64 ↑k] rfl (by rfl) HOne.out HM.out.2.2.1 HM.out.2.2.2.1 (by repeat (first | exact HOW1.out | refine own_below ?_ (Below.drew (Below.refl _ _)) | refine own_below ?_ ((Below.refl _ _).alloc (Nat.le_refl _) _))) (by repeat (first | exact hx1.out | exact hx0.out | exact HXn.out _ _ (by repeat (first | exact H0.out | assumption | apply HDd.out | apply HAl.out)) (by simp; done) | exact HXn.out _ _ (by repeat (first | exact H0.out | assumption | apply HDd.out | apply HAl.out)) rfl | refine Rd.below ?_ (Below.drew (Below.refl _ _)) | refine Rd.below ?_ ((Below.refl _ _).alloc (Nat.le_refl _) _))) (HBs.out _ (by repeat (first | exact H0.out | assumption | apply HDd.out | apply HAl.out))) ?_
                   intro g2 c2 w2 hown2 hgr2 hb2
                   have bb2 := HTr.out _ _ (by repeat (first | exact H0.out | assumption | apply HDd.out | apply HAl.out)) hb2
                   have HOW2 := Lib.hid hown2
                   clear hown2 hgr2 hb2)
                | (refine step_appendRd (by rfl) _ _ 24 (by rfl) hV 3 i0 (.int .i64 0) 1 8 Try.underlying24 hi0 hz0 hz1 hz2 (by rfl) (by decide) g2 (s + 1) c2 ((zs (up ((endsT l k).take s))) ++ [.int .i64 ↑k]) rfl none (k - s) (cap - s) (zs (up ((endsT l k).drop s))) rfl HLk.out.2 HOne3.out HM.out.2.2.2.2.1 HM.out.2.2.2.2.2 (by repeat (first | exact HOW2.out | refine own_below ?_ (Below.drew (Below.refl _ _)) | refine own_below ?_ ((Below.refl _ _).alloc (Nat.le_refl _) _))) (HRs.out _ (by repeat (first | exact H0.out | assumption | apply HDd.out | apply HAl.out))) (HBs.out _ (by repeat (first | exact H0.out | assumption | apply HDd.out | apply HAl.out))) ?_
                   intro g3 c3 w3 hown3 _ hb3
                   have bb3 := HTr.out _ _ (by repeat (first | exact H0.out | assumption | apply HDd.out | apply HAl.out)) hb3
                   have HOW3 := Lib.hid hown3
                   clear hown3 hb3))
              all_goals go_wp2_with fail
              all_goals go_roundw
              all_goals first
                | exact HWt.out _ _ _ (by repeat (first | assumption | apply HDd.out)) (by repeat (first | exact HOW3.out | refine own_below ?_ (Below.drew (Below.refl _ _))))
                | (simp [intOf]; omega)
            · have := HK0.out; omega
      · 
        go_wp2_with fail
        go_loopw [6] (fun a wq => SpotR l k W1 a wq) (fun a _ => (intOf a).toNat)
        case atStart => exact ⟨k, 0, by omega, rfl, rfl, rfl⟩
        case round =>
          obtain ⟨s, j, hs, rfl, hsp, hw⟩ := hrel
          have HW := Lib.hid hw; have HSP := Lib.hid hsp
          have R2 : Hid (Rd wr (some ⟨g, 0, none⟩) (zs (up (endsT l k)))) := Lib.hid (by rw [hw]; exact HR.out.drewN j)
          have L2 : Hid (Rd wr p (nums l)) := Lib.hid (by rw [hw]; exact HLR.out.drewN j)
          have B2 : Hid (∀ z, Below w.heap.size w (wr.drewN z)) := Lib.hid (fun z => by rw [hw]; exact below_drewN (below_drewN HB.out j) z)
          clear hw hsp
          have hel := endsT_length l k
          by_cases hgo : 0 < s ∧ lt l k ((endsT l k).getD (s - 1) 0) = true
          · obtain ⟨b, hbb, cx⟩ := rd_z R2.out (s - 1) (by rw [up_length]; omega)
            cases hbb
            obtain ⟨y, hy⟩ : ∃ y, y = (endsT l k).getD (s - 1) 0 := ⟨_, rfl⟩
            have hyk : y < k := by
              have : y ∈ endsT l k := by rw [hy, gd (by omega)]; exact List.getElem_mem _
              exact endsT_mem.1 this
            rw [up_getD _ _ (by omega), ← hy, Addr.add_lit, Nat.zero_add] at cx
            obtain ⟨ad, hpa, _⟩ := L2.out.form (by rw [nums_length, ← HN.out]; omega)
            subst hpa
            have LE := less_ends l ad n c k y wr HN.out L2.out (by omega) hlt (by omega)
            rw [hy, hgo.2, ← hy] at LE
            have HLE := Lib.hid LE
            have s0 : (0 : Int) < (s : Int) := by omega
            have ts : decide ((0 : Int) < (s : Int)) = true := decide_eq_true s0
            have ts2 : decide (0 < s) = true := decide_eq_true (by omega)
            have e1 : ((s : Int) - 1).toNat = s - 1 := by omega
            have s1 : (0 : Int) ≤ (s : Int) - 1 := by omega
            have s2 : (s : Int) - 1 < (k : Int) := by omega
            have k0 : (0 : Int) ≤ (k : Int) := by omega
            have k2 : (k : Int) ≤ (n : Int) := by omega
            have y0 : (0 : Int) ≤ (y : Int) := by omega
            have y1 : (y : Int) ≤ (n : Int) := by omega
            have ck1 : ¬ (c = k) := by omega
            have cy1 : ¬ (c = y) := by omega
            have hs1 : 1 ≤ s := by omega
            have HST : Hid (spot l k (endsT l k) (s - 1) = spot l k (endsT l k) k) := Lib.hid (by
              have := HSP.out
              obtain ⟨s', rfl⟩ : ∃ s', s = s' + 1 := ⟨s - 1, by omega⟩
              rw [spot, if_pos (by simpa using hgo.2)] at this
              exact this)
            clear hgo hy LE hel
            go_wp2_with fail
            go_quiet ((go_at_call 29; exact HLE.out _))
            go_wp2_with fail
            go_roundw
            case rel => exact ⟨s - 1, _, by omega, by go_num, HST.out, by rw [HW.out, World.drewN_drewN]⟩
            case measure => simp [intOf]; omega
          · have HSP2 : Hid (spot l k (endsT l k) k = s) := Lib.hid (by
              rw [← HSP.out]
              cases s with
              | zero => rfl
              | succ s' =>
                rw [spot, if_neg (fun h => hgo ⟨by omega, by simpa using h⟩)])
            have hor : s = 0 ∨ (0 < s ∧ lt l k ((endsT l k).getD (s - 1) 0) = false) := by
              rcases Nat.eq_zero_or_pos s with h | h
              · exact .inl h
              · refine .inr ⟨h, ?_⟩
                cases hb : lt l k ((endsT l k).getD (s - 1) 0) with
                | false => rfl
                | true => exact absurd ⟨h, hb⟩ hgo
            clear hgo HSP
            have HSP := HSP2
            clear HSP2
            have ks : s ≤ cap := by omega
            rcases hor with h | ⟨h, hlf⟩
            · have ts : decide ((0 : Int) < (s : Int)) = false := decide_eq_false (by omega)
              have ts2 : decide (0 < s) = false := decide_eq_false (by omega)
              clear h
              go_wp2_with fail
              go_quiet (fail)
              go_wp2_with fail
              obtain ⟨A3, hA3⟩ : ∃ A3, (if cap = s then some (⟨g, 0, none⟩ : Addr) else some ⟨g, s, none⟩) = A3 := ⟨_, rfl⟩
              obtain ⟨V, hVV⟩ : ∃ V, V = wr.drewN nq := ⟨_, rfl⟩
              have bV : Below w.heap.size w V := by rw [hVV]; exact B2.out nq
              have LV : Hid (Rd V p (nums l)) := Lib.hid (by rw [hVV]; exact L2.out.drewN nq)
              have e2 : Rd V (some ⟨g, 0, none⟩) (zs (up (endsT l k))) := by rw [hVV]; exact R2.out.drewN nq
              rw [← hVV]
              obtain ⟨hV, hhV⟩ : ∃ hV, hV = V.heap.size := ⟨_, rfl⟩
              have hwV : w.heap.size ≤ hV := by rw [hhV]; exact bV.size
              obtain ⟨BBp, hBBp⟩ : ∃ BBp : World → Prop, BBp = fun W => Below hV V W := ⟨_, rfl⟩
              have H0 : Hid (BBp V) := Lib.hid (by rw [hBBp]; exact Below.refl _ _)
              have HBs : Hid (∀ W, BBp W → hV ≤ W.heap.size) := Lib.hid (fun W hh => by rw [hBBp] at hh; have := hh.size; omega)
              have HDd : Hid (∀ W, BBp W → BBp W.drew) := Lib.hid (fun W hh => by rw [hBBp] at hh ⊢; exact hh.drew)
              have HAl : Hid (∀ W o, BBp W → BBp (W.alloc o)) := Lib.hid (fun W o hh => by
                have := HBs.out W hh
                rw [hBBp] at hh ⊢
                exact hh.alloc this o)
              have HTr : Hid (∀ W W', BBp W → Below hV W W' → BBp W') := Lib.hid (fun W W' hh hb => by rw [hBBp] at hh ⊢; exact hh.trans hb)
              have HRp : Hid (∀ W, BBp W → Rd W (some ⟨g, 0, none⟩) (zs (up ((endsT l k).take s)))) := Lib.hid (fun W hh => by
                rw [hBBp, hhV] at hh
                have := (e2.below hh).take s
                rwa [zs_up_take] at this)
              have HRs : Hid (∀ W, BBp W → Rd W A3 (zs (up ((endsT l k).drop s)))) := Lib.hid (fun W hh => by
                rw [hBBp, hhV] at hh
                have := e2.below hh
                rw [← hA3]
                exact cut_places this hel hkc hs)
              have HEm : Hid (∀ W g', BBp W → g' = W.heap.size → (W.alloc (.cells #[] 3)).ownsRow hV 3 1 (.slice (some ⟨g', 0, none⟩) 0 0) 0 []) := Lib.hid (fun W g' hh e => by
                subst e
                exact World.ownsRow_lit (e := 3) (base := hV) (size := 1) W #[] 0 (HBs.out W hh) (by decide) rfl)
              have HXn : Hid (∀ W g', BBp W → g' = W.heap.size → Rd (W.alloc (.cells #[.int .i64 ↑k] 3)) (some ⟨g', 0, none⟩) [.int .i64 ↑k]) := Lib.hid (fun W g' hh e => by
                subst e
                exact Rd.new W #[.int .i64 ↑k] 3)
              have hel := endsT_length l k
              have HLk : Hid ((zs (up ((endsT l k).take s))).length = s * 1 ∧ (zs (up ((endsT l k).drop s))).length = (k - s) * 1) := Lib.hid ⟨by rw [zs_length, up_length, List.length_take, hel]; omega, by rw [zs_length, up_length, List.length_drop, hel]; omega⟩
              have HM : Hid (0 + s ≤ maxLen ∧ (0 + s) * 8 ≤ 140737488355328 ∧ s + 1 ≤ maxLen ∧ (s + 1) * 8 ≤ 140737488355328 ∧ s + 1 + (k - s) ≤ maxLen ∧ (s + 1 + (k - s)) * 8 ≤ 140737488355328) := Lib.hid (by unfold maxLen; omega)
              have HOne : Hid (∀ u ∈ [Value.int .i64 (k : Int)], u.oneCell' = true) := Lib.hid (by intro u hu; simp only [List.mem_cons, List.not_mem_nil, or_false] at hu; subst hu; rfl)
              have HOne1 : Hid (∀ u ∈ zs (up ((endsT l k).take s)), u.oneCell' = true) := Lib.hid (zs_one _)
              have HOne3 : Hid (∀ u ∈ zs (up ((endsT l k).drop s)), u.oneCell' = true) := Lib.hid (zs_one _)
              have HIns : Hid (zs (up ((endsT l k).take s)) ++ [Value.int .i64 (k : Int)] ++ zs (up ((endsT l k).drop s)) = zs (up (endsT l (k + 1))) ∧ s + 1 + (k - s) = k + 1) := Lib.hid ⟨by
                rw [endsT, ins, hel, HSP.out, up_app, up_app, zs_app, zs_app]; rfl, by omega⟩
              have HWt : Hid (∀ W g3 c3, BBp W → W.ownsRow hV 3 1 (.slice (some ⟨g3, 0, none⟩) (s + 1 + (k - s)) c3) (s + 1 + (k - s)) (zs (up ((endsT l k).take s)) ++ [Value.int .i64 (k : Int)] ++ zs (up ((endsT l k).drop s))) → EndsR w p l n (.slice (some ⟨g3, 0, none⟩) (s + 1 + (k - s)) c3) (.int .i64 (↑k + 1)) W) := Lib.hid (fun W g3 c3 hh ho => by
                rw [HIns.out.1, HIns.out.2] at ho
                rw [HIns.out.2]
                have hcap : k + 1 ≤ c3 := by
                  obtain ⟨q, c, he, hc, _, _⟩ := own_rdN ho
                  cases he
                  exact hc
                have hnew := own_ge ho
                rw [hBBp] at hh
                have hb3 := bV.trans (hh.mono hwV)
                exact ⟨k + 1, some ⟨g3, 0, none⟩, c3, by omega, by go_num, rfl, hcap, .inr ⟨g3, rfl⟩, Rd.of_own ho, fun a e => by cases e; exact Nat.le_trans hwV (hnew g3 rfl), Fz.of_own ho _, by
                  rw [hhV] at hh; exact LV.out.below hh, hb3⟩)
              clear hBBp e2 bV hVV hel
              go_region_law (first
                | (refine step_appendRd (by rfl) _ _ 24 (by rfl) hV 3 i0 (.int .i64 0) 1 8 Try.underlying24 hi0 hz0 hz1 hz2 (by rfl) (by decide) _ 0 0 [] rfl (some ⟨g, 0, none⟩) s cap (zs (up ((endsT l k).take s))) rfl HLk.out.1 HOne1.out HM.out.1 HM.out.2.1 (by repeat (first | exact HEm.out _ _ (by repeat (first | exact H0.out | assumption | apply HDd.out | apply HAl.out)) (by simp; done) | exact HEm.out _ _ (by repeat (first | exact H0.out | assumption | apply HDd.out | apply HAl.out)) rfl | refine own_below ?_ (Below.drew (Below.refl _ _)) | refine own_below ?_ ((Below.refl _ _).alloc (Nat.le_refl _) _))) (HRp.out _ (by repeat (first | exact H0.out | assumption | apply HDd.out | apply HAl.out))) (HBs.out _ (by repeat (first | exact H0.out | assumption | apply HDd.out | apply HAl.out))) ?_
                   intro g1 c1 w1 hown1 (hgr1 : ((V.alloc (.cells #[] 3)).alloc (.cells #[.int .i64 ↑k] 3)).drew.grownBy w1 (some V.heap.size)) hb1
                   have hx1 : Hid (Rd w1 (some ⟨V.heap.size + 1, 0, none⟩) [.int .i64 ↑k]) := Lib.hid (rd_grown (by repeat (first | exact HXn.out _ _ (by repeat (first | exact H0.out | assumption | apply HDd.out | apply HAl.out)) (by simp; done) | exact HXn.out _ _ (by repeat (first | exact H0.out | assumption | apply HDd.out | apply HAl.out)) rfl | refine Rd.below ?_ (Below.drew (Below.refl _ _)) | refine Rd.below ?_ ((Below.refl _ _).alloc (Nat.le_refl _) _))) hgr1 (fun k e => by cases e; omega))
                   have bb1 := HTr.out _ _ (by repeat (first | exact H0.out | assumption | apply HDd.out | apply HAl.out)) hb1
                   simp only [Nat.zero_add, List.nil_append] at hown1
                   have HOW1 := Lib.hid hown1
                   clear hown1 hgr1 hb1)
                | (refine step_appendRd (by rfl) _ _ 24 (by rfl) hV 3 i0 (.int .i64 0) 1 8 Try.underlying24 hi0 hz0 hz1 hz2 (by rfl) (by decide) _ 0 0 [] rfl (some ⟨g, 0, none⟩) s cap (zs (up ((endsT l k).take s))) rfl HLk.out.1 HOne1.out HM.out.1 HM.out.2.1 (by repeat (first | exact HEm.out _ _ (by repeat (first | exact H0.out | assumption | apply HDd.out | apply HAl.out)) (by simp; done) | exact HEm.out _ _ (by repeat (first | exact H0.out | assumption | apply HDd.out | apply HAl.out)) rfl | refine own_below ?_ (Below.drew (Below.refl _ _)) | refine own_below ?_ ((Below.refl _ _).alloc (Nat.le_refl _) _))) (HRp.out _ (by repeat (first | exact H0.out | assumption | apply HDd.out | apply HAl.out))) (HBs.out _ (by repeat (first | exact H0.out | assumption | apply HDd.out | apply HAl.out))) ?_
                   intro g1 c1 w1 hown1 (hgr1 : ((V.alloc (.cells #[.int .i64 ↑k] 3)).alloc (.cells #[] 3)).drew.grownBy w1 (some (V.heap.size + 1))) hb1
                   have hx0 : Hid (Rd w1 (some ⟨V.heap.size, 0, none⟩) [.int .i64 ↑k]) := Lib.hid (rd_grown (by repeat (first | exact HXn.out _ _ (by repeat (first | exact H0.out | assumption | apply HDd.out | apply HAl.out)) (by simp; done) | exact HXn.out _ _ (by repeat (first | exact H0.out | assumption | apply HDd.out | apply HAl.out)) rfl | refine Rd.below ?_ (Below.drew (Below.refl _ _)) | refine Rd.below ?_ ((Below.refl _ _).alloc (Nat.le_refl _) _))) hgr1 (fun k e => by cases e; omega))
                   have bb1 := HTr.out _ _ (by repeat (first | exact H0.out | assumption | apply HDd.out | apply HAl.out)) hb1
                   simp only [Nat.zero_add, List.nil_append] at hown1
                   have HOW1 := Lib.hid hown1
                   clear hown1 hgr1 hb1)
                | (refine step_appendRd (by rfl) _ _ 24 (by rfl) hV 3 i0 (.int .i64 0) 1 8 Try.underlying24 hi0 hz0 hz1 hz2 (by rfl) (by decide) _ 0 0 [] rfl (some ⟨g, 0, none⟩) s cap (zs (up ((endsT l k).take s))) rfl HLk.out.1 HOne1.out HM.out.1 HM.out.2.1 (by repeat (first | exact HEm.out _ _ (by repeat (first | exact H0.out | assumption | apply HDd.out | apply HAl.out)) (by simp; done) | exact HEm.out _ _ (by repeat (first | exact H0.out | assumption | apply HDd.out | apply HAl.out)) rfl | refine own_below ?_ (Below.drew (Below.refl _ _)) | refine own_below ?_ ((Below.refl _ _).alloc (Nat.le_refl _) _))) (HRp.out _ (by repeat (first | exact H0.out | assumption | apply HDd.out | apply HAl.out))) (HBs.out _ (by repeat (first | exact H0.out | assumption | apply HDd.out | apply HAl.out))) ?_
                   intro g1 c1 w1 hown1 hgr1 hb1
                   have bb1 := HTr.out _ _ (by repeat (first | exact H0.out | assumption | apply HDd.out | apply HAl.out)) hb1
                   simp only [Nat.zero_add, List.nil_append] at hown1
                   have HOW1 := Lib.hid hown1
                   clear hown1 hgr1 hb1)
                | (refine step_appendRd (by rfl) _ _ 24 (by rfl) hV 3 i0 (.int .i64 0) 1 8 Try.underlying24 hi0 hz0 hz1 hz2 (by rfl) (by decide) g1 s c1 (zs (up ((endsT l k).take s))) rfl (some ⟨_, 0, none⟩) 1 1 [.int .i64 ↑k] rfl (by rfl) HOne.out HM.out.2.2.1 HM.out.2.2.2.1 (by repeat (first | exact HOW1.out | refine own_below ?_ (Below.drew (Below.refl _ _)) | refine own_below ?_ ((Below.refl _ _).alloc (Nat.le_refl _) _))) (by repeat (first | exact hx1.out | exact hx0.out | exact HXn.out _ _ (by repeat (first | exact H0.out | assumption | apply HDd.out | apply HAl.out)) (by simp; done) | exact HXn.out _ _ (by repeat (first | exact H0.out | assumption | apply HDd.out | apply HAl.out)) rfl | refine Rd.below ?_ (Below.drew (Below.refl _ _)) | refine Rd.below ?_ ((Below.refl _ _).alloc (Nat.le_refl _) _))) (HBs.out _ (by repeat (first | exact H0.out | assumption | apply HDd.out | apply HAl.out))) ?_
                   intro g2 c2 w2 hown2 hgr2 hb2
                   have bb2 := HTr.out _ _ (by repeat (first | exact H0.out | assumption | apply HDd.out | apply HAl.out)) hb2
                   have HOW2 := Lib.hid hown2
                   clear hown2 hgr2 hb2)
                | (refine step_appendRd (by rfl) _ _ 24 (by rfl) hV 3 i0 (.int .i64 0) 1 8 Try.underlying24 hi0 hz0 hz1 hz2 (by rfl) (by decide) g2 (s + 1) c2 ((zs (up ((endsT l k).take s))) ++ [.int .i64 ↑k]) rfl A3 (k - s) (cap - s) (zs (up ((endsT l k).drop s))) rfl HLk.out.2 HOne3.out HM.out.2.2.2.2.1 HM.out.2.2.2.2.2 (by repeat (first | exact HOW2.out | refine own_below ?_ (Below.drew (Below.refl _ _)) | refine own_below ?_ ((Below.refl _ _).alloc (Nat.le_refl _) _))) (HRs.out _ (by repeat (first | exact H0.out | assumption | apply HDd.out | apply HAl.out))) (HBs.out _ (by repeat (first | exact H0.out | assumption | apply HDd.out | apply HAl.out))) ?_
                   intro g3 c3 w3 hown3 _ hb3
                   have bb3 := HTr.out _ _ (by repeat (first | exact H0.out | assumption | apply HDd.out | apply HAl.out)) hb3
                   have HOW3 := Lib.hid hown3
                   clear hown3 hb3))
              all_goals go_wp2_with fail
              all_goals go_roundw
              all_goals first
                | exact HWt.out _ _ _ (by repeat (first | assumption | apply HDd.out)) (by repeat (first | exact HOW3.out | refine own_below ?_ (Below.drew (Below.refl _ _))))
                | (simp [intOf]; omega)
            · obtain ⟨b, hbb, cx⟩ := rd_z R2.out (s - 1) (by rw [up_length]; omega)
              cases hbb
              obtain ⟨y, hy⟩ : ∃ y, y = (endsT l k).getD (s - 1) 0 := ⟨_, rfl⟩
              have hyk : y < k := by
                have : y ∈ endsT l k := by rw [hy, gd (by omega)]; exact List.getElem_mem _
                exact endsT_mem.1 this
              rw [up_getD _ _ (by omega), ← hy, Addr.add_lit, Nat.zero_add] at cx
              obtain ⟨ad, hpa, _⟩ := L2.out.form (by rw [nums_length, ← HN.out]; omega)
              subst hpa
              have LE := less_ends l ad n c k y wr HN.out L2.out (by omega) hlt (by omega)
              rw [hy, hlf, ← hy] at LE
              have HLE := Lib.hid LE
              have s0 : (0 : Int) < (s : Int) := by omega
              have ts : decide ((0 : Int) < (s : Int)) = true := decide_eq_true s0
              have ts2 : decide (0 < s) = true := decide_eq_true (by omega)
              have e1 : ((s : Int) - 1).toNat = s - 1 := by omega
              have s1 : (0 : Int) ≤ (s : Int) - 1 := by omega
              have s2 : (s : Int) - 1 < (k : Int) := by omega
              have k0 : (0 : Int) ≤ (k : Int) := by omega
              have k2 : (k : Int) ≤ (n : Int) := by omega
              have y0 : (0 : Int) ≤ (y : Int) := by omega
              have y1 : (y : Int) ≤ (n : Int) := by omega
              have ck1 : ¬ (c = k) := by omega
              have cy1 : ¬ (c = y) := by omega
              have hs1 : 1 ≤ s := by omega
              clear hy LE hlf h
              go_wp2_with fail
              go_quiet ((go_at_call 29; exact HLE.out _))
              go_wp2_with fail
              obtain ⟨A3, hA3⟩ : ∃ A3, (if cap = s then some (⟨g, 0, none⟩ : Addr) else some ⟨g, s, none⟩) = A3 := ⟨_, rfl⟩
              obtain ⟨V, hVV⟩ : ∃ V, V = wr.drewN nq := ⟨_, rfl⟩
              have bV : Below w.heap.size w V := by rw [hVV]; exact B2.out nq
              have LV : Hid (Rd V (some ad) (nums l)) := Lib.hid (by rw [hVV]; exact L2.out.drewN nq)
              have e2 : Rd V (some ⟨g, 0, none⟩) (zs (up (endsT l k))) := by rw [hVV]; exact R2.out.drewN nq
              rw [← hVV]
              obtain ⟨hV, hhV⟩ : ∃ hV, hV = V.heap.size := ⟨_, rfl⟩
              have hwV : w.heap.size ≤ hV := by rw [hhV]; exact bV.size
              obtain ⟨BBp, hBBp⟩ : ∃ BBp : World → Prop, BBp = fun W => Below hV V W := ⟨_, rfl⟩
              have H0 : Hid (BBp V) := Lib.hid (by rw [hBBp]; exact Below.refl _ _)
              have HBs : Hid (∀ W, BBp W → hV ≤ W.heap.size) := Lib.hid (fun W hh => by rw [hBBp] at hh; have := hh.size; omega)
              have HDd : Hid (∀ W, BBp W → BBp W.drew) := Lib.hid (fun W hh => by rw [hBBp] at hh ⊢; exact hh.drew)
              have HAl : Hid (∀ W o, BBp W → BBp (W.alloc o)) := Lib.hid (fun W o hh => by
                have := HBs.out W hh
                rw [hBBp] at hh ⊢
                exact hh.alloc this o)
              have HTr : Hid (∀ W W', BBp W → Below hV W W' → BBp W') := Lib.hid (fun W W' hh hb => by rw [hBBp] at hh ⊢; exact hh.trans hb)
              have HRp : Hid (∀ W, BBp W → Rd W (some ⟨g, 0, none⟩) (zs (up ((endsT l k).take s)))) := Lib.hid (fun W hh => by
                rw [hBBp, hhV] at hh
                have := (e2.below hh).take s
                rwa [zs_up_take] at this)
              have HRs : Hid (∀ W, BBp W → Rd W A3 (zs (up ((endsT l k).drop s)))) := Lib.hid (fun W hh => by
                rw [hBBp, hhV] at hh
                have := e2.below hh
                rw [← hA3]
                exact cut_places this hel hkc hs)
              have HEm : Hid (∀ W g', BBp W → g' = W.heap.size → (W.alloc (.cells #[] 3)).ownsRow hV 3 1 (.slice (some ⟨g', 0, none⟩) 0 0) 0 []) := Lib.hid (fun W g' hh e => by
                subst e
                exact World.ownsRow_lit (e := 3) (base := hV) (size := 1) W #[] 0 (HBs.out W hh) (by decide) rfl)
              have HXn : Hid (∀ W g', BBp W → g' = W.heap.size → Rd (W.alloc (.cells #[.int .i64 ↑k] 3)) (some ⟨g', 0, none⟩) [.int .i64 ↑k]) := Lib.hid (fun W g' hh e => by
                subst e
                exact Rd.new W #[.int .i64 ↑k] 3)
              have hel := endsT_length l k
              have HLk : Hid ((zs (up ((endsT l k).take s))).length = s * 1 ∧ (zs (up ((endsT l k).drop s))).length = (k - s) * 1) := Lib.hid ⟨by rw [zs_length, up_length, List.length_take, hel]; omega, by rw [zs_length, up_length, List.length_drop, hel]; omega⟩
              have HM : Hid (0 + s ≤ maxLen ∧ (0 + s) * 8 ≤ 140737488355328 ∧ s + 1 ≤ maxLen ∧ (s + 1) * 8 ≤ 140737488355328 ∧ s + 1 + (k - s) ≤ maxLen ∧ (s + 1 + (k - s)) * 8 ≤ 140737488355328) := Lib.hid (by unfold maxLen; omega)
              have HOne : Hid (∀ u ∈ [Value.int .i64 (k : Int)], u.oneCell' = true) := Lib.hid (by intro u hu; simp only [List.mem_cons, List.not_mem_nil, or_false] at hu; subst hu; rfl)
              have HOne1 : Hid (∀ u ∈ zs (up ((endsT l k).take s)), u.oneCell' = true) := Lib.hid (zs_one _)
              have HOne3 : Hid (∀ u ∈ zs (up ((endsT l k).drop s)), u.oneCell' = true) := Lib.hid (zs_one _)
              have HIns : Hid (zs (up ((endsT l k).take s)) ++ [Value.int .i64 (k : Int)] ++ zs (up ((endsT l k).drop s)) = zs (up (endsT l (k + 1))) ∧ s + 1 + (k - s) = k + 1) := Lib.hid ⟨by
                rw [endsT, ins, hel, HSP.out, up_app, up_app, zs_app, zs_app]; rfl, by omega⟩
              have HWt : Hid (∀ W g3 c3, BBp W → W.ownsRow hV 3 1 (.slice (some ⟨g3, 0, none⟩) (s + 1 + (k - s)) c3) (s + 1 + (k - s)) (zs (up ((endsT l k).take s)) ++ [Value.int .i64 (k : Int)] ++ zs (up ((endsT l k).drop s))) → EndsR w (some ad) l n (.slice (some ⟨g3, 0, none⟩) (s + 1 + (k - s)) c3) (.int .i64 (↑k + 1)) W) := Lib.hid (fun W g3 c3 hh ho => by
                rw [HIns.out.1, HIns.out.2] at ho
                rw [HIns.out.2]
                have hcap : k + 1 ≤ c3 := by
                  obtain ⟨q, c, he, hc, _, _⟩ := own_rdN ho
                  cases he
                  exact hc
                have hnew := own_ge ho
                rw [hBBp] at hh
                have hb3 := bV.trans (hh.mono hwV)
                exact ⟨k + 1, some ⟨g3, 0, none⟩, c3, by omega, by go_num, rfl, hcap, .inr ⟨g3, rfl⟩, Rd.of_own ho, fun a e => by cases e; exact Nat.le_trans hwV (hnew g3 rfl), Fz.of_own ho _, by
                  rw [hhV] at hh; exact LV.out.below hh, hb3⟩)
              clear hBBp e2 bV hVV hel
              go_region_law (first
                | (refine step_appendRd (by rfl) _ _ 24 (by rfl) hV 3 i0 (.int .i64 0) 1 8 Try.underlying24 hi0 hz0 hz1 hz2 (by rfl) (by decide) _ 0 0 [] rfl (some ⟨g, 0, none⟩) s cap (zs (up ((endsT l k).take s))) rfl HLk.out.1 HOne1.out HM.out.1 HM.out.2.1 (by repeat (first | exact HEm.out _ _ (by repeat (first | exact H0.out | assumption | apply HDd.out | apply HAl.out)) (by simp; done) | exact HEm.out _ _ (by repeat (first | exact H0.out | assumption | apply HDd.out | apply HAl.out)) rfl | refine own_below ?_ (Below.drew (Below.refl _ _)) | refine own_below ?_ ((Below.refl _ _).alloc (Nat.le_refl _) _))) (HRp.out _ (by repeat (first | exact H0.out | assumption | apply HDd.out | apply HAl.out))) (HBs.out _ (by repeat (first | exact H0.out | assumption | apply HDd.out | apply HAl.out))) ?_
                   intro g1 c1 w1 hown1 (hgr1 : ((V.alloc (.cells #[] 3)).alloc (.cells #[.int .i64 ↑k] 3)).drew.grownBy w1 (some V.heap.size)) hb1
                   have hx1 : Hid (Rd w1 (some ⟨V.heap.size + 1, 0, none⟩) [.int .i64 ↑k]) := Lib.hid (rd_grown (by repeat (first | exact HXn.out _ _ (by repeat (first | exact H0.out | assumption | apply HDd.out | apply HAl.out)) (by simp; done) | exact HXn.out _ _ (by repeat (first | exact H0.out | assumption | apply HDd.out | apply HAl.out)) rfl | refine Rd.below ?_ (Below.drew (Below.refl _ _)) | refine Rd.below ?_ ((Below.refl _ _).alloc (Nat.le_refl _) _))) hgr1 (fun k e => by cases e; omega))
                   have bb1 := HTr.out _ _ (by repeat (first | exact H0.out | assumption | apply HDd.out | apply HAl.out)) hb1
                   simp only [Nat.zero_add, List.nil_append] at hown1
                   have HOW1 := Lib.hid hown1
                   clear hown1 hgr1 hb1)
                | (refine step_appendRd (by rfl) _ _ 24 (by rfl) hV 3 i0 (.int .i64 0) 1 8 Try.underlying24 hi0 hz0 hz1 hz2 (by rfl) (by decide) _ 0 0 [] rfl (some ⟨g, 0, none⟩) s cap (zs (up ((endsT l k).take s))) rfl HLk.out.1 HOne1.out HM.out.1 HM.out.2.1 (by repeat (first | exact HEm.out _ _ (by repeat (first | exact H0.out | assumption | apply HDd.out | apply HAl.out)) (by simp; done) | exact HEm.out _ _ (by repeat (first | exact H0.out | assumption | apply HDd.out | apply HAl.out)) rfl | refine own_below ?_ (Below.drew (Below.refl _ _)) | refine own_below ?_ ((Below.refl _ _).alloc (Nat.le_refl _) _))) (HRp.out _ (by repeat (first | exact H0.out | assumption | apply HDd.out | apply HAl.out))) (HBs.out _ (by repeat (first | exact H0.out | assumption | apply HDd.out | apply HAl.out))) ?_
                   intro g1 c1 w1 hown1 (hgr1 : ((V.alloc (.cells #[.int .i64 ↑k] 3)).alloc (.cells #[] 3)).drew.grownBy w1 (some (V.heap.size + 1))) hb1
                   have hx0 : Hid (Rd w1 (some ⟨V.heap.size, 0, none⟩) [.int .i64 ↑k]) := Lib.hid (rd_grown (by repeat (first | exact HXn.out _ _ (by repeat (first | exact H0.out | assumption | apply HDd.out | apply HAl.out)) (by simp; done) | exact HXn.out _ _ (by repeat (first | exact H0.out | assumption | apply HDd.out | apply HAl.out)) rfl | refine Rd.below ?_ (Below.drew (Below.refl _ _)) | refine Rd.below ?_ ((Below.refl _ _).alloc (Nat.le_refl _) _))) hgr1 (fun k e => by cases e; omega))
                   have bb1 := HTr.out _ _ (by repeat (first | exact H0.out | assumption | apply HDd.out | apply HAl.out)) hb1
                   simp only [Nat.zero_add, List.nil_append] at hown1
                   have HOW1 := Lib.hid hown1
                   clear hown1 hgr1 hb1)
                | (refine step_appendRd (by rfl) _ _ 24 (by rfl) hV 3 i0 (.int .i64 0) 1 8 Try.underlying24 hi0 hz0 hz1 hz2 (by rfl) (by decide) _ 0 0 [] rfl (some ⟨g, 0, none⟩) s cap (zs (up ((endsT l k).take s))) rfl HLk.out.1 HOne1.out HM.out.1 HM.out.2.1 (by repeat (first | exact HEm.out _ _ (by repeat (first | exact H0.out | assumption | apply HDd.out | apply HAl.out)) (by simp; done) | exact HEm.out _ _ (by repeat (first | exact H0.out | assumption | apply HDd.out | apply HAl.out)) rfl | refine own_below ?_ (Below.drew (Below.refl _ _)) | refine own_below ?_ ((Below.refl _ _).alloc (Nat.le_refl _) _))) (HRp.out _ (by repeat (first | exact H0.out | assumption | apply HDd.out | apply HAl.out))) (HBs.out _ (by repeat (first | exact H0.out | assumption | apply HDd.out | apply HAl.out))) ?_
                   intro g1 c1 w1 hown1 hgr1 hb1
                   have bb1 := HTr.out _ _ (by repeat (first | exact H0.out | assumption | apply HDd.out | apply HAl.out)) hb1
                   simp only [Nat.zero_add, List.nil_append] at hown1
                   have HOW1 := Lib.hid hown1
                   clear hown1 hgr1 hb1)
                | (refine step_appendRd (by rfl) _ _ 24 (by rfl) hV 3 i0 (.int .i64 0) 1 8 Try.underlying24 hi0 hz0 hz1 hz2 (by rfl) (by decide) g1 s c1 (zs (up ((endsT l k).take s))) rfl (some ⟨_, 0, none⟩) 1 1 [.int .i64 ↑k] rfl (by rfl) HOne.out HM.out.2.2.1 HM.out.2.2.2.1 (by repeat (first | exact HOW1.out | refine own_below ?_ (Below.drew (Below.refl _ _)) | refine own_below ?_ ((Below.refl _ _).alloc (Nat.le_refl _) _))) (by repeat (first | exact hx1.out | exact hx0.out | exact HXn.out _ _ (by repeat (first | exact H0.out | assumption | apply HDd.out | apply HAl.out)) (by simp; done) | exact HXn.out _ _ (by repeat (first | exact H0.out | assumption | apply HDd.out | apply HAl.out)) rfl | refine Rd.below ?_ (Below.drew (Below.refl _ _)) | refine Rd.below ?_ ((Below.refl _ _).alloc (Nat.le_refl _) _))) (HBs.out _ (by repeat (first | exact H0.out | assumption | apply HDd.out | apply HAl.out))) ?_
                   intro g2 c2 w2 hown2 hgr2 hb2
                   have bb2 := HTr.out _ _ (by repeat (first | exact H0.out | assumption | apply HDd.out | apply HAl.out)) hb2
                   have HOW2 := Lib.hid hown2
                   clear hown2 hgr2 hb2)
                | (refine step_appendRd (by rfl) _ _ 24 (by rfl) hV 3 i0 (.int .i64 0) 1 8 Try.underlying24 hi0 hz0 hz1 hz2 (by rfl) (by decide) g2 (s + 1) c2 ((zs (up ((endsT l k).take s))) ++ [.int .i64 ↑k]) rfl A3 (k - s) (cap - s) (zs (up ((endsT l k).drop s))) rfl HLk.out.2 HOne3.out HM.out.2.2.2.2.1 HM.out.2.2.2.2.2 (by repeat (first | exact HOW2.out | refine own_below ?_ (Below.drew (Below.refl _ _)) | refine own_below ?_ ((Below.refl _ _).alloc (Nat.le_refl _) _))) (HRs.out _ (by repeat (first | exact H0.out | assumption | apply HDd.out | apply HAl.out))) (HBs.out _ (by repeat (first | exact H0.out | assumption | apply HDd.out | apply HAl.out))) ?_
                   intro g3 c3 w3 hown3 _ hb3
                   have bb3 := HTr.out _ _ (by repeat (first | exact H0.out | assumption | apply HDd.out | apply HAl.out)) hb3
                   have HOW3 := Lib.hid hown3
                   clear hown3 hb3))
              all_goals go_wp2_with fail
              all_goals go_roundw
              all_goals first
                | exact HWt.out _ _ _ (by repeat (first | assumption | apply HDd.out)) (by repeat (first | exact HOW3.out | refine own_below ?_ (Below.drew (Below.refl _ _))))
                | (simp [intOf]; omega)

    · obtain rfl : k = n := by omega
      have E : Hid (endsT l k = ends l) := Lib.hid (by rw [HN.out]; rfl)
      have EL : Hid ((ends l).length = k) := Lib.hid (by rw [ends_length, HN.out])
      rw [E.out] at HR
      go_wp2_with fail
      refine bodyPost_ret (v := .tuple #[.slice A k cap, .int .i64 0]) (by simp [results, Try.results33, go_sem]) rfl ?_
      exact ⟨A, cap, by rw [EL.out], by rw [EL.out]; exact hkc, HR.out, HNW.out, by rw [EL.out]; exact HFZ.out, HB.out⟩
end Go.Proofs.Ytonlbcibfbbpgaa.Od
