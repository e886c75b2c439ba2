/- The walks of package skew's over and of a level's triples. -/
import Derived.Test.YtonlbcibfbbpgaaSkPA
import Derived.Test.YtonlbcibfbbpgaaSkPE
import Derived.Deep.RegionLaw
namespace Go.Proofs.Ytonlbcibfbbpgaa.Sk
open Go.RowKit Go.Lib Go.Sort Rw Ls Od _root_.Go.Proofs.Ytonlbcibfbbpgaa.Nm

open Go.Op in
/-- append one element to a row of one's own, at a step of a region that draws its order -/
theorem step_own {P : Program} {ops : Array Oper} {o : Oper} {a : Act} {K : Act → World → Prop} {Q : Exit → Act → World → Prop} {E : Prop} (W : World) (hgd : o.guard = none) (s x : Operand) (t : TypeId)
    (ho : o.op = .call { callee := .builtin .append, args := #[s, x], argTypes := #[t, t] })
    (base : Nat) (e : TypeId) (i : TypeInfo) (z : Value) (size bytes : Nat) (ht : P.underlying t = some (.slice e)) (hi : P.info? e = some i) (hz : i.zero = some z)
    (hsize : i.size = size) (hby : i.bytes = bytes) (hzs : z.cells.size = size) (hsz : 0 < size)
    (v : Value) (n : Nat) (xs : List Value) (hs : a.eval s = v) (hown : W.ownsRow base e size v n xs)
    (news : List Value) (hx : a.eval x = .slice (some ⟨W.heap.size, 0, none⟩) 1 1) (hl : news.length = size) (h1c : news.all (fun u => u.oneCell') = true)
    (hn : n ≤ 1000000000) (hb2 : bytes ≤ 1000) (hbase : base ≤ W.heap.size)
    (hK : ∀ v' w', w'.ownsRow base e size v' (n + 1) (xs ++ news) → (W.alloc (.cells news.toArray e)).grownBy w' v.ownBlock → K (a.put o.dst v') w') :
    if Region.wanted o (yielded ops a.tmps) = true then Oper.wp P o a (W.alloc (.cells news.toArray e)) K Q else E := by
  have hw : Region.wanted o (yielded ops a.tmps) = true := by simp [Region.wanted, hgd]
  rw [if_pos hw]
  have hown2 := Rw.own_below hown ((RowKit.Below.refl _ W).alloc (Nat.le_refl _) (.cells news.toArray e))
  have hc : ∀ j u, news[j]? = some u → (W.alloc (.cells news.toArray e)).cell? ((⟨W.heap.size, 0, none⟩ : Addr).add j) = some u := by
    intro j u hj
    exact World.news_of_block (cs := news.toArray) (heap_alloc_new W _) j u (by simpa using hj)
  have hbb : (n + 1) * bytes ≤ 140737488355328 := by
    have : (n + 1) * bytes ≤ (1000000000 + 1) * 1000 := Nat.mul_le_mul (by omega) hb2
    omega
  obtain ⟨v', w', hrun, r1, r2, _⟩ := run_append_own (P := P) (W.alloc (.cells news.toArray e)) base t o.type e i z size bytes ht hi hz hsize hby hzs hsz v n xs hown2 ⟨W.heap.size, 0, none⟩ 1 1 news (by omega) hc (fun u hu => List.all_eq_true.1 h1c u hu) (by unfold maxLen; omega) hbb (by simp; omega)
  unfold Oper.wp
  simp [execOp, ho, resolve, invoke, builtin, hs, hx, hrun, Result.andThen]
  exact hK v' w' r1 r2
theorem set1_block (w : World) (b : Nat) (a0 a1 v : Value) (t : TypeId) (h : w.heap[b]? = some (.cells #[a0, a1] t (0, 0))) : (w.setCell ⟨b, 1, none⟩ v).heap[b]? = some (.cells #[a0, v] t (0, 0)) := by
  obtain ⟨hlt, hk⟩ := Array.getElem?_eq_some_iff.1 h
  show (w.heap.modify b _)[b]? = _
  rw [Array.getElem?_eq_getElem (by rw [Array.size_modify]; exact hlt), Array.getElem_modify_self, hk]
  rfl
/-- a level: a list with its samples -/
def LvP (w : World) (p : Option Addr) (n c : Nat) (e : Ending) (w' : World) : Prop := ∃ (q : Option Addr) (d : Nat), e = .returned (.agg #[.slice p n c, .slice q (mm n) d]) ∧ mm n ≤ d ∧ Rd w' q (zs (up (places n))) ∧ NewAt w.heap.size q ∧ RowKit.Below w.heap.size w w'
set_option maxHeartbeats 4000000 in
set_option maxRecDepth 100000 in
theorem over_any (p : Option Addr) (n c : Nat) (w : World) (hn : n ≤ 1000000) : Calls Try.prog 23 #[.slice p n c] w (LvP w p n c) := by
  obtain ⟨i0, hi0, hz0, hz1, hz2⟩ := info_parts info_int
  have mixed : Try.prog.follows Departure.mixedOrders = true := by kernel_rfl
  have CM := Lib.hid (fun w => many_any n w (by omega))
  have CP := Lib.hid (fun x w (hx : x ≤ 17592186044416) => place_any n x w (by omega) hx)
  have hmm : mm n ≤ n + 1 := by unfold mm top; split <;> omega
  go_enter Try.func23, Try.ntmps23
  go_wp2_with fail
  refine (CM.out _).mono ?_
  rintro e w' ⟨rfl, rfl⟩
  go_wp2_with fail
  obtain ⟨s, hs⟩ : ∃ s, s = w.heap.size := ⟨_, rfl⟩
  obtain ⟨w2, hw2⟩ : ∃ w2, w2 = (w.alloc (.cells #[.slice none 0 0, .slice none 0 0] 44)).alloc (.cells #[.slice p n c, .slice none 0 0] 44) := ⟨_, rfl⟩
  have X1 : Hid (w2.heap[s + 1]? = some (.cells #[.slice p n c, .slice none 0 0] 44 (0, 0))) := Lib.hid (by
    have := World.alloc_heap_new (w.alloc (.cells #[.slice none 0 0, .slice none 0 0] 44)) (.cells #[.slice p n c, .slice none 0 0] 44)
    rw [World.size_alloc, ← hs, ← hw2] at this; exact this)
  have X0 : Hid (w2.heap[s]? = some (.cells #[.slice none 0 0, .slice none 0 0] 44 (0, 0))) := Lib.hid (by
    rw [hw2, hs]; exact (Below.heap_alloc _ _ _ (by simp)).trans (World.alloc_heap_new w _))
  have X2 : Hid (RowKit.Below s w w2) := Lib.hid (by rw [hw2, hs]; exact ((RowKit.Below.refl _ w).alloc (Nat.le_refl _) _).alloc (by simp) _)
  have X3 : Hid (w2.ownsRow (s + 2) 3 1 (.slice none 0 0) 0 (zs (up ((places n).take 0)))) := Lib.hid (World.ownsRow_nil _ _ _ _)
  have HPL : Hid ((places n).length = mm n) := Lib.hid (places_length n)
  rw [← hw2, ← hs]
  have HS := Lib.hid hs
  clear hw2 hs CM
  go_loopw [10] (fun i wr => ∃ (k : Nat) (v : Value), k ≤ mm n ∧ i = .int .i64 k ∧ Hid (wr.heap[s + 1]? = some (.cells #[.slice p n c, v] 44 (0, 0))) ∧ Hid (wr.heap[s]? = some (.cells #[.slice none 0 0, .slice none 0 0] 44 (0, 0))) ∧ Hid (wr.ownsRow (s + 2) 3 1 v k (zs (up ((places n).take k)))) ∧ Hid (RowKit.Below s w wr)) (fun i _ => mm n - (intOf i).toNat)
  case atStart => exact ⟨0, _, Nat.zero_le _, rfl, X1, X0, X3, X2⟩
  case round =>
    clear X0 X1 X2 X3
    obtain ⟨k, v, hk, rfl, H1, H0, HO, HB⟩ := hrel
    have hl1 : s + 1 < wr.heap.size := (Array.getElem?_eq_some_iff.1 H1.out).1
    by_cases hlt : k < mm n
    · have k1 : (k : Int) < (mm n : Int) := by omega
      obtain ⟨x, hx⟩ : ∃ x, x = pl n k := ⟨_, rfl⟩
      have CK := Lib.hid (fun w => CP.out k w (by omega))
      rw [← hx] at CK
      have ht : zs (up ((places n).take (k + 1))) = zs (up ((places n).take k)) ++ [.int .i64 (x : Nat)] := by
        have hkl : k < (places n).length := by rw [HPL.out]; exact hlt
        rw [List.take_succ_eq_append_getElem hkl, up_app, zs_app]
        congr 1
        have : (places n)[k] = x := by rw [hx, ← places_at n k hlt, gd hkl]
        rw [this]; rfl
      have HT := Lib.hid ht
      have c1 : wr.cell? ⟨s + 1, 1, none⟩ = some v := by simp [World.cell?, H1.out]
      have c2 : (wr.drew.alloc (.cells #[.int .i64 (x : Nat)] 3)).cell? ⟨s + 1, 1, none⟩ = some v := by
        rw [← c1]; exact (((RowKit.Below.refl _ wr).drew).alloc (Nat.le_refl _) _).cell (p := ⟨s + 1, 1, none⟩) hl1
      clear hx ht hlt
      go_wp2_with fail
      go_region_law (first
        | (refine step_own wr.drew (by rfl) _ _ 24 (by rfl) (s + 2) 3 i0 (.int .i64 0) 1 8 Try.underlying24 hi0 hz0 hz1 hz2 (by rfl) (by decide) v k _ (by rfl) HO.out [.int .i64 (x : Nat)] (by rfl) (by rfl) (by rfl) (by omega) (by omega) (by show s + 2 ≤ wr.heap.size; omega) ?_; intro v1 w1 hown hgr
           have hne : ∀ j, j ≤ s + 1 → v.ownBlock ≠ some j := fun j hj e => by
             rcases HO.out.2 with ⟨rfl, _⟩ | ⟨g, cap, cur, rfl, hg, _⟩
             · simp [Value.ownBlock] at e
             · simp [Value.ownBlock] at e; omega
           have hb1 : w1.heap[s + 1]? = some (.cells #[.slice p n c, v] 44 (0, 0)) := (hgr.block (s + 1) (by simp; omega) (fun e => hne _ (Nat.le_refl _) e.symm)).trans ((Below.heap_alloc _ _ _ hl1).trans H1.out)
           have cc1 : w1.cell? ⟨s + 1, 1, none⟩ = some v := by simp [World.cell?, hb1]
           have ff1 : w1.frozen? ⟨s + 1, 1, none⟩ = false := by simp [World.frozen?, hb1]
           obtain ⟨g1, cap1, rfl⟩ := ownsRow_succ hown
           have hg1 := (hown.lt g1 rfl).1
           have hb0 : w1.heap[s]? = some (.cells #[.slice none 0 0, .slice none 0 0] 44 (0, 0)) := (hgr.block s (by simp; omega) (fun e => hne _ (by omega) e.symm)).trans ((Below.heap_alloc _ _ _ (by show s < wr.heap.size; omega)).trans H0.out)
           have hbw : RowKit.Below s w w1 := HB.out.trans ((((RowKit.Below.refl s wr).drew).alloc (by show s ≤ wr.heap.size; omega) _).grown hgr (by simp; omega) (fun j e => by
             rcases Nat.lt_or_ge j s with h | h
             · exact absurd e (hne j (by omega))
             · exact h))
           have E1 := Lib.hid (set1_block w1 (s + 1) (.slice p n c) v (.slice (some ⟨g1, 0, none⟩) (k + 1) cap1) _ hb1)
           have E0 : Hid ((w1.setCell ⟨s + 1, 1, none⟩ (.slice (some ⟨g1, 0, none⟩) (k + 1) cap1)).heap[s]? = some (.cells #[.slice none 0 0, .slice none 0 0] 44 (0, 0))) := Lib.hid ((Below.heap_setCell _ _ _ s (by show s ≠ s + 1; omega)).trans hb0)
           have EO := Lib.hid (ownsRow_setCell_other hown (a := ⟨s + 1, 1, none⟩) (by simp [Value.ownBlock]; omega) (.slice (some ⟨g1, 0, none⟩) (k + 1) cap1))
           have EB := Lib.hid (below_put hbw (a := ⟨s + 1, 1, none⟩) (by show s ≤ s + 1; omega) (.slice (some ⟨g1, 0, none⟩) (k + 1) cap1))
           clear hown hgr hb1 hne hb0 hbw hg1)
        | (go_simp; go_at_call 39; ((with_reducible refine (CK.out _).mono ?_)); rintro e w' ⟨rfl, rfl⟩))
      all_goals go_wp2_with fail
      all_goals go_roundw
      all_goals (first | (simp [intOf]; done) | (simp [intOf]; omega) | exact ⟨k + 1, _, by omega, by go_num, E1, E0, by rw [HT.out]; exact EO, EB⟩)
    · obtain rfl : k = mm n := by omega
      have k1 : ¬ ((mm n : Nat) : Int) < ((mm n : Nat) : Int) := by omega
      have hoo := HO.out
      rw [List.take_of_length_le (by rw [HPL.out]; exact Nat.le_refl _)] at hoo
      obtain ⟨q, d, rfl⟩ : ∃ q d, v = .slice q (mm n) d := by
        rcases hoo.2 with ⟨rfl, h0⟩ | ⟨g, cap, cur, rfl, _⟩
        · exact ⟨none, 0, by rw [h0]⟩
        · exact ⟨_, _, rfl⟩
      have c0 : wr.cell? ⟨s + 1, 0, none⟩ = some (.slice p n c) := by simp [World.cell?, H1.out]
      have c1 : wr.cell? ⟨s + 1, 1, none⟩ = some (.slice q (mm n) d) := by simp [World.cell?, H1.out]
      have r0 : wr.cell? ⟨s, 0, none⟩ = some (.slice none 0 0) := by simp [World.cell?, H0.out]
      have r1 : wr.cell? ⟨s, 1, none⟩ = some (.slice none 0 0) := by simp [World.cell?, H0.out]
      have g0 : wr.frozen? ⟨s, 0, none⟩ = false := by simp [World.frozen?, H0.out]
      have g1 : wr.frozen? ⟨s, 1, none⟩ = false := by simp [World.frozen?, H0.out]
      clear hlt hk
      have hmd : mm n ≤ d := by
        rcases hoo.2 with ⟨h, h0⟩ | ⟨g, cap, cur, h, _, _, hcap, _⟩
        · rw [h0]; exact Nat.zero_le _
        · cases h; exact hcap
      have hform : q = none ∨ ∃ g, q = some ⟨g, 0, none⟩ ∧ s + 2 ≤ g := by
        rcases hoo.2 with ⟨h, _⟩ | ⟨g, cap, cur, h, hg, _⟩
        · simp only [Value.slice.injEq] at h; exact .inl h.1
        · simp only [Value.slice.injEq] at h; exact .inr ⟨g, h.1, hg⟩
      have hnw : NewAt w.heap.size q := fun a e => by
        rcases hform with h | ⟨g, h, hg⟩
        · rw [h] at e; cases e
        · rw [h] at e; cases e; rw [← HS.out]; show s ≤ g; omega
      have hq : ∀ j, j ≤ s + 1 → (Value.slice q (mm n) d).ownBlock ≠ some j := fun j hj e => by
        rcases hform with h | ⟨g, h, hg⟩
        · rw [h] at e; simp [Value.ownBlock] at e
        · rw [h] at e; simp [Value.ownBlock] at e; omega
      have o1 := ownsRow_setCell_other hoo (a := ⟨s, 0, none⟩) (hq s (by omega)) (.slice p n c)
      have o2 := ownsRow_setCell_other o1 (a := ⟨s, 1, none⟩) (hq s (by omega)) (.slice q (mm n) d)
      have hb2 := below_put (below_put HB.out (a := ⟨s, 0, none⟩) (Nat.le_refl _) (.slice p n c)) (a := ⟨s, 1, none⟩) (Nat.le_refl _) (.slice q (mm n) d)
      have hbk : ((wr.setCell ⟨s, 0, none⟩ (.slice p n c)).setCell ⟨s, 1, none⟩ (.slice q (mm n) d)).heap[s]? = some (.cells #[.slice p n c, .slice q (mm n) d] 44 (0, 0)) := by
        refine set1_block _ s (.slice p n c) (.slice none 0 0) _ _ ?_
        obtain ⟨hlt, hk⟩ := Array.getElem?_eq_some_iff.1 H0.out
        show (wr.heap.modify s _)[s]? = _
        rw [Array.getElem?_eq_getElem (by rw [Array.size_modify]; exact hlt), Array.getElem_modify_self, hk]
        rfl
      have F1 := Lib.hid (Rd.of_own o2); have F2 := Lib.hid hb2; have F3 := Lib.hid hnw; have F4 := Lib.hid hmd
      have q0 : ((wr.setCell ⟨s, 0, none⟩ (.slice p n c)).setCell ⟨s, 1, none⟩ (.slice q (mm n) d)).cell? ⟨s, 0, none⟩ = some (.slice p n c) := by simp [World.cell?, hbk]
      have q1 : ((wr.setCell ⟨s, 0, none⟩ (.slice p n c)).setCell ⟨s, 1, none⟩ (.slice q (mm n) d)).cell? ⟨s, 1, none⟩ = some (.slice q (mm n) d) := by simp [World.cell?, hbk]
      have Q0 := Lib.hid q0; have Q1 := Lib.hid q1
      clear o1 o2 hb2 hbk hq hnw hmd hoo q0 q1
      go_wp2_with fail
      have q0 := Q0.out; have q1 := Q1.out
      refine bodyPost_ret (v := .agg #[.slice p n c, .slice q (mm n) d]) (by simp [results, Try.results23, go_sem, q0, q1]) rfl ?_
      exact ⟨q, d, rfl, F4.out, F1.out, F3.out, by rw [← HS.out]; exact F2.out⟩
/-- the triples of a list's samples -/
def trT (l : List Nat) : List T3 := (places l.length).map fun i => (l.getD i 0, l.getD (i + 1) 0, l.getD (i + 2) 0)
theorem trT_length (l : List Nat) : (trT l).length = mm l.length := by rw [trT, List.length_map, places_length]
theorem trT_tl (l : List Nat) : (trT l).map tl = trips l := by
  unfold trT trips
  rw [List.map_map]
  rfl
def TpP (w : World) (l : List Nat) (e : Ending) (w' : World) : Prop := ∃ (g cap : Nat), e = .returned (.slice (some ⟨g, 0, none⟩) (mm l.length) cap) ∧ mm l.length ≤ cap ∧ RowT w' g (trT l) ∧ w.heap.size ≤ g ∧ RowKit.Below w.heap.size w w'
set_option maxHeartbeats 8000000 in
set_option maxRecDepth 100000 in
theorem triplesP_any (l : List Nat) (p q : Option Addr) (n c m d : Nat) (w : World) (hn : n = l.length) (hl : n ≤ 1000000) (hm : m = mm n) (hp : Rd w p (nums l)) (hq : Rd w q (zs (up (places n)))) :
    Calls Try.prog 25 #[.agg #[.slice p n c, .slice q m d]] w (TpP w l) := by
  obtain ⟨i0, hi0, hz0, hz1, hz2⟩ := info_parts info_t
  have hmm : m ≤ n + 1 := by rw [hm]; unfold mm top; split <;> omega
  have HN := Lib.hid hn; have HM := Lib.hid hm
  have HQ := Lib.hid hq; have HP := Lib.hid hp
  clear hn hm hq hp
  go_enter Try.func25, Try.ntmps25
  go_wp2_with (at_make; refine wpList_make_own _ rfl _ _ 47 rfl (w.alloc (.cells #[.slice p n c, .slice q m d] 44)).heap.size 50 i0 (.agg #[.int .u64 0, .int .u64 0, .int .u64 0]) 3 Try.underlying47 hi0 hz0 hz1 .i64 .i64 (m : Int) m rfl rfl rfl ?c1 ?c2 ?c3 ?_)
  case c1 => rw [hz2]; omega
  case c2 => unfold maxLen; omega
  case c3 => simp
  intro w2 hown hgr
  obtain ⟨s, hs⟩ : ∃ s, s = w.heap.size := ⟨_, rfl⟩
  have B1 : Hid (RowKit.Below (s + 1) (w.alloc (.cells #[.slice p n c, .slice q m d] 44)) w2) := Lib.hid ((RowKit.Below.refl _ _).grown hgr (by rw [hs]; simp) (by simp))
  have X0 : Hid (w2.heap[s]? = some (.cells #[.slice p n c, .slice q m d] 44 (0, 0))) := Lib.hid ((B1.out.block s (by omega)).trans (by rw [hs]; exact World.alloc_heap_new w _))
  have B2 : Hid (RowKit.Below s w w2) := Lib.hid (((RowKit.Below.refl s w).alloc (by omega) _).trans (B1.out.mono (by omega)))
  have P2 : Hid (Rd w2 p (nums l)) := Lib.hid (HP.out.below (by rw [← hs]; exact B2.out))
  have Q2 : Hid (Rd w2 q (zs (up (places n)))) := Lib.hid (HQ.out.below (by rw [← hs]; exact B2.out))
  have Z2 : Hid (s + 1 ≤ w2.heap.size) := Lib.hid (by have := B1.out.size; rw [World.size_alloc, ← hs] at this; exact this)
  rw [← hs] at hown ⊢
  have HO : Hid (w2.ownsRow (s + 1) 50 3 (.slice (some ⟨s + 1, 0, none⟩) 0 m) 0 (fT ((trT l).take 0))) := Lib.hid hown
  have HS := Lib.hid hs
  have c0 : w2.cell? ⟨s, 0, none⟩ = some (.slice p n c) := by simp [World.cell?, X0.out]
  have c1 : w2.cell? ⟨s, 1, none⟩ = some (.slice q m d) := by simp [World.cell?, X0.out]
  have HBz := Lib.hid (RowKit.Below.refl (s + 1) w2)
  have HLEN : Hid ((trT l).length = m ∧ (places n).length = m) := Lib.hid ⟨by rw [trT_length, ← HN.out, HM.out], by rw [places_length, HM.out]⟩
  clear hown hgr hs B1
  go_wp2_with fail
  clear c0 c1
  go_loopw [3, 13] (fun v i wr => ∃ (k g cp : Nat), k ≤ m ∧ i = .int .i64 k ∧ v = .slice (some ⟨g, 0, none⟩) k cp ∧ Hid (wr.ownsRow (s + 1) 50 3 v k (fT ((trT l).take k))) ∧ Hid (RowKit.Below (s + 1) w2 wr)) (fun _ i _ => m - (intOf i).toNat)
  case atStart => exact ⟨0, s + 1, m, Nat.zero_le _, rfl, rfl, HO, HBz⟩
  case round =>
    clear HO HBz
    obtain ⟨k, g, cp, hk, rfl, rfl, HO, HB⟩ := hrel
    by_cases hlt : k < m
    · have k0 : (0 : Int) ≤ (k : Int) := by omega
      have k1 : (k : Int) < (m : Int) := by omega
      have hW := HB.out.size
      have hzz := Z2.out
      have hpl : (places n).getD k 0 = pl n k := places_at n k (by rw [← HM.out]; exact hlt)
      have hple : pl n k ≤ n := pl_le (by rw [← HM.out]; exact hlt)
      obtain ⟨aq, rfl, cq⟩ := rd_z (HQ.out.below (by rw [← HS.out]; exact B2.out.trans (HB.out.mono (Nat.le_succ _)))) k (by rw [up_length, HLEN.out.2]; exact hlt)
      rw [up_getD _ _ (by rw [HLEN.out.2]; exact hlt), hpl] at cq
      have hx : (trT l)[k]? = some (l.getD (pl n k) 0, l.getD (pl n k + 1) 0, l.getD (pl n k + 2) 0) := by
        unfold trT
        rw [← HN.out, List.getElem?_map]
        have : (places n)[k]? = some (pl n k) := by
          have h2 : k < (places n).length := by rw [HLEN.out.2]; exact hlt
          rw [List.getElem?_eq_getElem h2, ← hpl, gd h2]
        rw [this]; rfl
      obtain ⟨x, hxe⟩ : ∃ x, x = pl n k := ⟨_, rfl⟩
      rw [← hxe] at cq hx hple
      obtain ⟨x1, hx1⟩ : ∃ x1, x1 = x + 1 := ⟨_, rfl⟩
      obtain ⟨x2, hx2⟩ : ∃ x2, x2 = x + 2 := ⟨_, rfl⟩
      rw [← hx1, ← hx2] at hx
      have RP : Rd wr.drew p (nums l) := (HP.out.below (by rw [← HS.out]; exact B2.out.trans (HB.out.mono (Nat.le_succ _)))).drewN 1
      have C0 := Lib.hid (at_any l p n c x wr.drew HN.out RP)
      have C1 := Lib.hid (at_any l p n c x1 wr.drew HN.out RP)
      have C2 := Lib.hid (at_any l p n c x2 wr.drew HN.out RP)
      obtain ⟨y0, hy0⟩ : ∃ y, y = l.getD x 0 := ⟨_, rfl⟩
      obtain ⟨y1, hy1⟩ : ∃ y, y = l.getD x1 0 := ⟨_, rfl⟩
      obtain ⟨y2, hy2⟩ : ∃ y, y = l.getD x2 0 := ⟨_, rfl⟩
      rw [← hy0] at C0 hx
      rw [← hy1] at C1 hx
      rw [← hy2] at C2 hx
      have ht : fT ((trT l).take (k + 1)) = fT ((trT l).take k) ++ [.int .u64 (y0 : Nat), .int .u64 (y1 : Nat), .int .u64 (y2 : Nat)] := by
        have hkl : k < (trT l).length := by rw [HLEN.out.1]; exact hlt
        rw [List.getElem?_eq_getElem hkl] at hx
        rw [List.take_succ_eq_append_getElem hkl, Option.some.inj hx, fT_append, fT_one]
        rfl
      have HT := Lib.hid ht
      have w1 : IntKind.i64.wrap (x1 : Int) = (x1 : Int) := IntWalk.i64_in _ (by omega)
      have w2e : IntKind.i64.wrap (x2 : Int) = (x2 : Int) := IntWalk.i64_in _ (by omega)
      have a1 : (x : Int) + 1 = (x1 : Int) := by omega
      have a2 : (x : Int) + 2 = (x2 : Int) := by omega
      have hb0 : wr.heap[s]? = some (.cells #[.slice p n c, .slice (some aq) m d] 44 (0, 0)) := (HB.out.block s (by omega)).trans X0.out
      have c0 : wr.cell? ⟨s, 0, none⟩ = some (.slice p n c) := by simp [World.cell?, hb0]
      have hrow := HO.out.lt g rfl
      have HGG := Lib.hid hrow
      clear hx hxe hx1 hx2 hy0 hy1 hy2 ht hpl hb0 RP hrow
      go_wp2_with fail
      go_region_law (first
        | (refine step_own wr.drew (by rfl) _ _ 47 (by rfl) (s + 1) 50 i0 (.agg #[.int .u64 0, .int .u64 0, .int .u64 0]) 3 24 Try.underlying47 hi0 hz0 hz1 hz2 (by rfl) (by decide) (.slice (some ⟨g, 0, none⟩) k cp) k _ (by rfl) HO.out [.int .u64 (y0 : Nat), .int .u64 (y1 : Nat), .int .u64 (y2 : Nat)] (by rfl) (by rfl) (by rfl) (by omega) (by omega) (by show s + 1 ≤ wr.heap.size; omega) ?_; intro v1 w1 hown hgr
           obtain ⟨g1, cap1, rfl⟩ := ownsRow_succ hown
           have HBW : Hid (RowKit.Below (s + 1) w2 w1) := Lib.hid (HB.out.trans ((((RowKit.Below.refl (s + 1) wr).drew).alloc (by show s + 1 ≤ wr.heap.size; omega) _).grown hgr (by simp; omega) (fun j e => by
             have := HGG.out.1
             simp [Value.ownBlock] at e
             omega)))
           have HOW := Lib.hid hown
           clear hown hgr)
        | (go_simp; go_at_call 40; ((with_reducible refine C0.out.mono ?_)); rintro e w' ⟨rfl, rfl⟩)
        | (go_simp; go_at_call 40; ((with_reducible refine C1.out.mono ?_)); rintro e w' ⟨rfl, rfl⟩)
        | (go_simp; go_at_call 40; ((with_reducible refine C2.out.mono ?_)); rintro e w' ⟨rfl, rfl⟩))
      all_goals go_wp2_with fail
      all_goals go_roundw
      all_goals (first | (simp [intOf]; done) | (simp [intOf]; omega) | exact ⟨k + 1, g1, cap1, by omega, by go_num, rfl, by rw [HT.out]; exact HOW, HBW⟩)
    · obtain rfl : k = m := by omega
      have k1 : ¬ (k : Int) < (k : Int) := by omega
      have hoo := HO.out
      rw [List.take_of_length_le (by rw [HLEN.out.1]; exact Nat.le_refl _)] at hoo
      have hR := rowT_own hoo
      have hg := (hoo.lt g rfl).1
      have hcp : k ≤ cp := by
        rcases hoo.2 with ⟨h, _⟩ | ⟨g2, cap2, cur, h, _, _, hc2, _⟩
        · cases h
        · simp only [Value.slice.injEq] at h; rw [h.2.2]; exact hc2
      have F : Hid (TpP w l (.returned (.slice (some ⟨g, 0, none⟩) k cp)) wr) := Lib.hid ⟨g, cp, by rw [HM.out, HN.out], by rw [← HN.out, ← HM.out]; exact hcp, hR, by rw [← HS.out]; omega, by rw [← HS.out]; exact B2.out.trans (HB.out.mono (Nat.le_succ _))⟩
      clear hoo hR hg hcp hlt hk
      go_wp2_with fail
      go_ret
      exact F.out
end Go.Proofs.Ytonlbcibfbbpgaa.Sk
