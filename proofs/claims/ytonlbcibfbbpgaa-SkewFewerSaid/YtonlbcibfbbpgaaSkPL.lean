/- The walk of a known level's firsts. The walk of a level's expand. -/
import Derived.Test.YtonlbcibfbbpgaaSkPJ
import Derived.Test.YtonlbcibfbbpgaaOrdA
import Derived.Deep.RegionLaw
import Derived.Deep.AppendLies
import Derived.BigQuiet
namespace Go.Proofs.Ytonlbcibfbbpgaa.Sk
open Go.RowKit Go.Lib Go.Sort Rw Ls Od _root_.Go.Proofs.Ytonlbcibfbbpgaa.Nm

/-- a known level's box and what it names -/
structure KBox (W : World) (bk : Nat) (p q r : Option Addr) (n c m d n1 cr : Nat) (l R : List Nat) : Prop where
  box : W.heap[bk]? = some (.cells #[.slice p n c, .slice q m d, .slice r n1 cr] 77 (0, 0))
  hl : Rd W p (nums l)
  hr : Rd W r (nums R)
theorem KBox.grown {W : World} {bk : Nat} {p q r : Option Addr} {n c m d n1 cr : Nat} {l R : List Nat} (h : KBox W bk p q r n c m d n1 cr l R) (z : Nat) (os : Array Obj) : KBox (grow (W.drewN z) os) bk p q r n c m d n1 cr l R :=
  ⟨((grow_below W z os).block bk (Array.getElem?_eq_some_iff.1 h.box).1).trans h.box, rd_grow h.hl z os, rd_grow h.hr z os⟩
set_option maxHeartbeats 4000000 in
set_option maxRecDepth 100000 in
theorem fcmp_any (l R : List Nat) (p q r : Option Addr) (n c m d n1 cr bk a b : Nat) (W : World) (hn : n = l.length) (hn1 : n1 = R.length) (ha : a ≤ 1000000) (hb : b ≤ 1000000) (hK : KBox W bk p q r n c m d n1 cr l R) :
    Calls Try.prog 63 #[.int .i64 a, .int .i64 b, .pointer (some ⟨bk, 0, none⟩)] W fun e w' => e = .returned (.int .i64 (lexC (tl (keyT l R a 1)) (tl (keyT l R b 1)))) ∧ ∃ q os', w' = grow (W.drewN q) os' := by
  have mixed : Try.prog.follows Departure.mixedOrders = true := by kernel_rfl
  have c0 := fun z os => (show (grow (W.drewN z) os).cell? ⟨bk, 0, none⟩ = some (.slice p n c) by simp [World.cell?, (hK.grown z os).box])
  have c1 := fun z os => (show (grow (W.drewN z) os).cell? ⟨bk, 1, none⟩ = some (.slice q m d) by simp [World.cell?, (hK.grown z os).box])
  have c2 := fun z os => (show (grow (W.drewN z) os).cell? ⟨bk, 2, none⟩ = some (.slice r n1 cr) by simp [World.cell?, (hK.grown z os).box])
  have k1 := fun z os => key_any l R p q r n c m d n1 cr a 1 (grow (W.drewN z) os) hn hn1 ha (hK.grown z os).hl (hK.grown z os).hr
  have k2 := fun z os => key_any l R p q r n c m d n1 cr b 1 (grow (W.drewN z) os) hn hn1 hb (hK.grown z os).hl (hK.grown z os).hr
  obtain ⟨x, hx⟩ : ∃ x, x = keyT l R a 1 := ⟨_, rfl⟩
  obtain ⟨y, hy⟩ : ∃ y, y = keyT l R b 1 := ⟨_, rfl⟩
  rw [← hx, ← hy]
  simp only [← hx] at k1
  simp only [← hy] at k2
  have k3 := fun z os => compare_any x y (grow (W.drewN z) os)
  generalize lexC (tl x) (tl y) = v at k3 ⊢
  clear hx hy hK hn hn1
  obtain ⟨x1, x2, x3⟩ := x
  obtain ⟨y1, y2, y3⟩ := y
  simp only [encT] at k1 k2 k3
  go_enter Try.func63, Try.ntmps63
  go_wp2_with fail
  go_quiet_grown (first
    | (go_at_call 52; with_reducible refine Calls.grown_of (k1 _ _))
    | (go_at_call 52; with_reducible refine Calls.grown_of (k2 _ _))
    | (go_at_call 45; with_reducible refine Calls.grown_of (k3 _ _)))
  go_wp2_with fail
  go_ret
  exact ⟨rfl, nq, osq, rfl⟩
theorem zer_length (n : Nat) : (zer n).length = (n + 2) / 3 := by simp [zer]
theorem zer_at {n k : Nat} (h : k < (zer n).length) : (zer n)[k] = 3 * k := by simp [zer]
/-- sorted by the keys, the places that leave 0 stand in the order of their ends -/
theorem firsts_up {l R : List Nat} (hP : Pos l) (hR : Rk l R) (L : List (Fin l.length)) (d' : Array (Fin l.length)) [Inhabited (Fin l.length)] (hL : L.map Fin.val = zer l.length) (h1 : PermIn 0 L.length L.toArray d') (h2 : SortedIn (ltOf fun x y : Fin l.length => lexC (tl (keyT l R x.val 1)) (tl (keyT l R y.val 1))) 0 L.length d') :
    (d'.toList.map Fin.val).Perm (zer l.length) ∧ Up l (d'.toList.map Fin.val) := by
  obtain ⟨hs, _, hp⟩ := h1
  have hs2 : d'.size = L.length := by simpa using hs
  have hpp : d'.toList.Perm L := by
    have e1 : d'.extract 0 L.length = d' := by rw [← hs2]; exact Array.extract_size
    have e2 : L.toArray.extract 0 L.length = L.toArray := by have := Array.extract_size (xs := L.toArray); simp
    rw [e1, e2] at hp
    simpa using hp
  have hperm : (d'.toList.map Fin.val).Perm (zer l.length) := by rw [← hL]; exact hpp.map _
  refine ⟨hperm, ?_⟩
  have hnd : (d'.toList.map Fin.val).Nodup := hperm.nodup_iff.2 (zer_nodup _)
  unfold Up
  rw [List.pairwise_iff_getElem]
  intro i j hi hj hij
  have hi2 : i < d'.size := by simpa using hi
  have hj2 : j < d'.size := by simpa using hj
  have h3 := h2 i j (Nat.zero_le _) hij (by omega)
  have hne := (List.pairwise_iff_getElem.1 hnd) i j hi hj hij
  have zi := zer_mem.1 (hperm.mem_iff.1 (List.getElem_mem hi))
  have zj := zer_mem.1 (hperm.mem_iff.1 (List.getElem_mem hj))
  have h4 : lexL (tl (keyT l R (d'.toList.map Fin.val)[j] 1)) (tl (keyT l R (d'.toList.map Fin.val)[i] 1)) = false := by
    have e : ltOf (fun x y : Fin l.length => lexC (tl (keyT l R x.val 1)) (tl (keyT l R y.val 1))) d'[j]! d'[i]! = lexL (tl (keyT l R d'[j]!.val 1)) (tl (keyT l R d'[i]!.val 1)) := lexC_lt _ _
    rw [e] at h3
    simp only [getElem!_pos d' i hi2, getElem!_pos d' j hj2] at h3
    simpa using h3
  rw [key_one hP hR zj.1 zj.2 (Nat.le_of_lt zi.2) (fun e => hne e.symm) (.inl zi.1)] at h4
  exact lt_total (Nat.le_of_lt zj.2) (Nat.le_of_lt zi.2) (fun e => hne e.symm) h4
def FsP (w : World) (l : List Nat) (e : Ending) (w' : World) : Prop := ∃ (g cap : Nat) (F : List Nat), e = .returned (.slice (some ⟨g, 0, none⟩) F.length cap) ∧ F.length ≤ cap ∧ F.Perm (zer l.length) ∧ Up l F ∧ Rd w' (some ⟨g, 0, none⟩) (zs (up F)) ∧ w.heap.size ≤ g ∧ RowKit.Below w.heap.size w w'
set_option maxHeartbeats 4000000 in
set_option maxRecDepth 100000 in
theorem firsts_any (l R : List Nat) (p q r : Option Addr) (n c m d n1 cr : Nat) (w : World) (hn : n = l.length) (hn1 : n1 = R.length) (h0 : 0 < n) (hl : n ≤ 100000) (hp : Rd w p (nums l)) (hr : Rd w r (nums R)) (hP : Pos l) (hRk : Rk l R) :
    Calls Try.prog 51 #[.agg #[.slice p n c, .slice q m d, .slice r n1 cr]] w (FsP w l) := by
  obtain ⟨i0, hi0, hz0, hz1, hz2⟩ := info_parts info_int
  have HN := Lib.hid hn; have HN1 := Lib.hid hn1; have HP := Lib.hid hp; have HR := Lib.hid hr; have HPO := Lib.hid hP; have HRK := Lib.hid hRk
  clear hn hn1 hp hr hP hRk
  go_enter Try.func51, Try.ntmps51
  go_wp2_with fail
  obtain ⟨s, hs⟩ : ∃ s, s = w.heap.size := ⟨_, rfl⟩
  obtain ⟨w2, hw2⟩ : ∃ w2, w2 = (w.alloc (.cells #[.slice p n c, .slice q m d, .slice r n1 cr] 77)).alloc (.cells #[] 3) := ⟨_, rfl⟩
  have F0 : Hid (w2.heap[s]? = some (.cells #[.slice p n c, .slice q m d, .slice r n1 cr] 77 (0, 0))) := Lib.hid (by rw [hw2, hs]; exact (Below.heap_alloc _ _ _ (by simp)).trans (World.alloc_heap_new w _))
  have F1 : w2.heap[s + 1]? = some (.cells #[] 3 (0, 0)) := by
    have := World.alloc_heap_new (w.alloc (.cells #[.slice p n c, .slice q m d, .slice r n1 cr] 77)) (.cells #[] 3)
    rw [World.size_alloc, ← hs, ← hw2] at this; exact this
  have FB : Hid (RowKit.Below s w w2) := Lib.hid (by rw [hw2, hs]; exact ((RowKit.Below.refl _ w).alloc (Nat.le_refl _) _).alloc (by simp) _)
  have FO : Hid (w2.ownsRow (s + 1) 3 1 (.slice (some ⟨s + 1, 0, none⟩) 0 0) 0 (zs (up ((zer n).take 0)))) := Lib.hid ⟨rfl, .inr ⟨s + 1, 0, #[], rfl, Nat.le_refl _, F1, Nat.le_refl _, by unfold maxLen; omega, rfl, rfl⟩⟩
  have FZ : Hid (s + 1 < w2.heap.size) := Lib.hid (Array.getElem?_eq_some_iff.1 F1).1
  have FBB := Lib.hid (RowKit.Below.refl (s + 1) w2)
  have HZL : Hid ((zer n).length = (n + 2) / 3) := Lib.hid (zer_length n)
  have HZA : Hid (∀ k (h : k < (zer n).length), (zer n)[k] = 3 * k) := Lib.hid (fun k h => zer_at h)
  have HS := Lib.hid hs
  rw [← hw2, ← hs]
  clear hw2 hs F1
  go_loopw [3, 4] (fun v i wr => ∃ (k g1 c1 : Nat), k ≤ (n + 2) / 3 ∧ i = .int .i64 (3 * (k : Int)) ∧ v = .slice (some ⟨g1, 0, none⟩) k c1 ∧ Hid (wr.ownsRow (s + 1) 3 1 v k (zs (up ((zer n).take k)))) ∧ Hid (RowKit.Below (s + 1) w2 wr)) (fun _ i _ => n + 3 - (intOf i).toNat)
  case atStart => exact ⟨0, s + 1, 0, Nat.zero_le _, rfl, rfl, FO, FBB⟩
  case round =>
    clear FO FBB
    obtain ⟨k, g1, c1, hk, rfl, rfl, HO, HB⟩ := hrel
    have hfz := FZ.out
    have hws := HB.out.size
    have hbx := (HB.out.block s (by omega)).trans F0.out
    have k0 : wr.cell? ⟨s, 0, none⟩ = some (.slice p n c) := by simp [World.cell?, hbx]
    by_cases hlt : 3 * k < n
    · have t1 : 3 * (k : Int) < (n : Int) := by omega
      have w1 : IntKind.i64.wrap (3 * (k : Int) + 3) = 3 * (k : Int) + 3 := IntWalk.i64_in _ (by omega)
      have htk : zs (up ((zer n).take (k + 1))) = zs (up ((zer n).take k)) ++ [.int .i64 (3 * (k : Int))] := by
        have h2 : k < (zer n).length := by rw [HZL.out]; omega
        rw [List.take_succ_eq_append_getElem h2, up_app, zs_app, HZA.out k h2]
        congr 1
      have HTK := Lib.hid htk
      have hbase : s + 1 ≤ wr.heap.size := by omega
      have hkb : k ≤ 1000000000 := by omega
      clear htk hbx
      go_wp2_with (at_builtin; refine Rw.push rfl _ _ 24 rfl (s + 1) 3 i0 (.int .i64 0) 1 8 Try.underlying24 hi0 hz0 hz1 hz2 rfl (by decide) _ _ _ rfl HO.out [.int .i64 (3 * (k : Int))] rfl rfl rfl hkb (by omega) hbase ?_)
      intro g7 c7 w7 hown7 _ _ _ hgr7
      have H7 : Hid (w7.ownsRow (s + 1) 3 1 (.slice (some ⟨g7, 0, none⟩) (k + 1) c7) (k + 1) (zs (up ((zer n).take (k + 1))))) := Lib.hid (by rw [HTK.out]; exact hown7)
      have HB7 : Hid (RowKit.Below (s + 1) w2 w7) := Lib.hid (HB.out.trans hgr7)
      clear hown7 hgr7
      go_wp2_with fail
      go_roundw
      case rel => exact ⟨k + 1, g7, c7, by omega, by have e3 : 3 * (k : Int) + 3 = 3 * ((k + 1 : Nat) : Int) := (by omega); rw [e3], rfl, H7, HB7⟩
      case measure => simp [intOf]; omega
    · have hke : k = (zer n).length := by rw [HZL.out]; omega
      have t1 : ¬ 3 * (k : Int) < (n : Int) := by omega
      have hoo := HO.out
      rw [List.take_of_length_le (by omega)] at hoo
      have hg := hoo.lt g1 rfl
      have hcp : k ≤ c1 := by
        rcases hoo.2 with ⟨h, _⟩ | ⟨g2, cap2, cur, h, _, _, hc2, _⟩
        · cases h
        · simp only [Value.slice.injEq] at h; rw [h.2.2]; exact hc2
      have HCP := Lib.hid hcp
      have hKB : KBox wr s p q r n c m d n1 cr l R := ⟨hbx, HP.out.below (by rw [← HS.out]; exact FB.out.trans (HB.out.mono (Nat.le_succ _))), HR.out.below (by rw [← HS.out]; exact FB.out.trans (HB.out.mono (Nat.le_succ _)))⟩
      have HBW : Hid (RowKit.Below s w wr) := Lib.hid (FB.out.trans (HB.out.mono (Nat.le_succ _)))
      have hn := HN.out
      subst hn
      have hpb : ∀ (a : Option Addr) (xs : List Value), Rd w a xs → 0 < xs.length → ∀ b, a = some b → b.block < s := fun a xs h hx b e => by
        obtain ⟨b', e', hb', _⟩ := h 0 hx
        rw [e] at e'; cases e'; rw [HS.out]; exact hb'
      haveI : Inhabited (Fin l.length) := ⟨⟨0, h0⟩⟩
      obtain ⟨D, hD⟩ := fins (n := l.length) (zer l.length) (fun x hx => (zer_mem.1 hx).2)
      have hDl : D.length = k := by have := congrArg List.length hD; rw [List.length_map] at this; omega
      have hH : Holds (fun x : Fin l.length => Value.int .i64 (x.val : Int)) wr g1 0 D.toArray := fun j hj => by
        have hj2 : j < D.length := by simpa using hj
        have hj3 : j < (zer l.length).length := by omega
        rw [Nat.zero_add]
        refine ⟨?_, hoo.frozenAt j⟩
        rw [World.ownsRow.cellAt hoo j (by omega)]
        have e : (zer l.length)[j] = (D[j]).val := by
          have := List.getElem_map (f := Fin.val) (l := D) (i := j) (h := by rw [List.length_map]; exact hj2)
          rw [← this]; congr 1; exact hD.symm
        simp [zs, up, hj3, e, hj2]
      have C := Try.slices_SortFunc (fun x : Fin l.length => Value.int .i64 (x.val : Int)) (fun _ => rfl) (fun x y => lexC (tl (keyT l R x.val 1)) (tl (keyT l R y.val 1)))
        ⟨fun x => by rw [show ltOf (fun x y : Fin l.length => lexC (tl (keyT l R x.val 1)) (tl (keyT l R y.val 1))) x x = lexL _ _ from lexC_lt _ _]; exact lexL_same _,
         fun x y z h1 h2 => (lexC_lt _ _).trans (lexL_trans _ _ _ ((lexC_lt _ _).symm.trans h1) ((lexC_lt _ _).symm.trans h2)),
         fun x y z h1 h2 => (lexC_lt _ _).trans (lexL_ntrans ((lexC_lt _ _).symm.trans h1) ((lexC_lt _ _).symm.trans h2))⟩
        63 #[.pointer (some ⟨s, 0, none⟩)] g1 0 c1 D.toArray wr (enters_of Try.func63 (by kernel_rfl) rfl)
        (fun mm os dk hdk x y => by
          have hb := sw_bar (w0 := wr) (blk := g1) (off := 0) (d := dk) (enc := fun x : Fin l.length => Value.int .i64 (x.val : Int)) ⟨mm, os, rfl⟩
          refine fcmp_any l R p q r l.length c m d n1 cr s x.val y.val _ rfl HN1.out (by have := x.2; omega) (by have := y.2; omega) ⟨(hb.block s (by omega) (by omega)).trans hKB.box, ?_, ?_⟩
          · exact _root_.Go.Proofs.Ytonlbcibfbbpgaa.Ls.Rd.bar hKB.hl hb (fun a e => by have := hpb p _ HP.out (by rw [nums_length]; exact h0) a e; omega)
          · by_cases hz : R.length = 0
            · intro i hi; rw [nums_length] at hi; omega
            · exact _root_.Go.Proofs.Ytonlbcibfbbpgaa.Ls.Rd.bar hKB.hr hb (fun a e => by have := hpb r _ HR.out (by rw [nums_length]; omega) a e; omega))
        hH hg.2 (by simp [hDl]; omega)
      rw [List.size_toArray, hDl] at C
      have HC := Lib.hid C
      have HH := Lib.hid hH; have HD := Lib.hid hD; have HG := Lib.hid hg
      have HKE := Lib.hid hke; have HDL := Lib.hid hDl
      clear C hH hoo hKB hbx hlt hk hg hpb hke hDl hD hcp
      go_wp2_with fail
      refine HC.out.mono ?_
      rintro e w5 ⟨rfl, d', z, os, h1, h2, h3⟩
      have F : Hid (FsP w l (.returned (.slice (some ⟨g1, 0, none⟩) k c1)) w5) := Lib.hid (by
        have hDl := HDL.out
        have hg1 := HG.out.1
        rw [← hDl] at h1 h2
        obtain ⟨u1, u2⟩ := firsts_up HPO.out HRK.out D d' HD.out h1 h2
        have hs : d'.size = D.toArray.size := h1.1
        have hl2 : (d'.toList.map Fin.val).length = k := by rw [u1.length_eq, ← HKE.out]
        have hb := sw_bar (w0 := wr) (blk := g1) (off := 0) (d := d') (enc := fun x : Fin l.length => Value.int .i64 (x.val : Int)) ⟨z, os, h3⟩
        have hH2 : Holds (fun x : Fin l.length => Value.int .i64 (x.val : Int)) w5 g1 0 d' := by rw [h3]; exact holds_sortWorld _ _ _ _ _ D.toArray d' os HG.out.2 HH.out hs
        refine ⟨g1, c1, d'.toList.map Fin.val, by rw [hl2], by rw [hl2]; exact HCP.out, u1, u2, ?_, by rw [← HS.out]; omega, ?_⟩
        · intro i hi
          rw [zs_length, up_length, hl2] at hi
          have hid : i < d'.size := by rw [hs]; simp; omega
          refine ⟨_, rfl, Nat.lt_of_lt_of_le HG.out.2 hb.size, ?_⟩
          have := (hH2 i hid).1
          rw [Nat.zero_add] at this
          rw [Addr.add_lit, Nat.zero_add, this]
          simp [zs, up, List.getD_eq_getElem?_getD, hid]
        · rw [← HS.out]
          exact HBW.out.trans ⟨hb.os, hb.tape, hb.output, hb.size, fun j hj => hb.block j (by omega) (by omega)⟩)
      clear h1 h2 h3 HC
      go_wp2_with fail
      go_ret
      exact F.out
end Go.Proofs.Ytonlbcibfbbpgaa.Sk
namespace Go.Proofs.Ytonlbcibfbbpgaa.Sk
open Go.RowKit Go.Lib Go.Sort Rw Ls Od _root_.Go.Proofs.Ytonlbcibfbbpgaa.Nm

open Go.Op in
/-- append one element to a row of one's own, at a step of a region that draws its order; where the row lies then -/
theorem step_own2 {P : Program} {ops : Array Oper} {o : Oper} {a : Act} {K : Act → World → Prop} {Q : Exit → Act → World → Prop} {E : Prop} (W : World) (hgd : o.guard = none) (s x : Operand) (t : TypeId)
    (ho : o.op = .call { callee := .builtin .append, args := #[s, x], argTypes := #[t, t] })
    (base : Nat) (e : TypeId) (i : TypeInfo) (z : Value) (size bytes : Nat) (ht : P.underlying t = some (.slice e)) (hi : P.info? e = some i) (hz : i.zero = some z)
    (hsize : i.size = size) (hby : i.bytes = bytes) (hzs : z.cells.size = size) (hsz : 0 < size)
    (v : Value) (n : Nat) (xs : List Value) (hs : a.eval s = v) (hown : W.ownsRow base e size v n xs)
    (news : List Value) (hx : a.eval x = .slice (some ⟨W.heap.size, 0, none⟩) 1 1) (hl : news.length = size) (h1c : news.all (fun u => u.oneCell') = true)
    (hn : n ≤ 1000000000) (hb2 : bytes ≤ 1000) (hbase : base ≤ W.heap.size)
    (hK : ∀ g cap w', w'.ownsRow base e size (.slice (some ⟨g, 0, none⟩) (n + 1) cap) (n + 1) (xs ++ news) → (W.alloc (.cells news.toArray e)).grownBy w' v.ownBlock → (v.ownBlock = some g ∨ g = W.heap.size + 1) → K (a.put o.dst (.slice (some ⟨g, 0, none⟩) (n + 1) cap)) w') :
    if Region.wanted o (yielded ops a.tmps) = true then Oper.wp P o a (W.alloc (.cells news.toArray e)) K Q else E := by
  have hown2 := Rw.own_below hown ((RowKit.Below.refl _ W).alloc (Nat.le_refl _) (.cells news.toArray e))
  refine step_append_lies _ hgd s x t ho base e i z size bytes ht hi hz hsize hby hzs hsz v n xs hs hown2 ⟨W.heap.size, 0, none⟩ 1 1 news hx (by omega) ?_ (fun u hu => List.all_eq_true.1 h1c u hu) (by decide) (by unfold maxLen; omega) ?_ (by simp; omega) (W.heap.size + 1) (by simp) ?_
  · intro j u hj
    exact World.news_of_block (cs := news.toArray) (heap_alloc_new W _) j u (by simpa using hj)
  · have : (n + 1) * bytes ≤ (1000000000 + 1) * 1000 := Nat.mul_le_mul (by omega) hb2
    omega
  · intro g cap w' h1 h2 h3 _
    exact hK g cap w' h1 h2 h3
open Go.Op in
/-- nothing appended -/
theorem wpList_app0 {P : Program} {W : World} {ops : Array Oper} {rest : List Oper} {o : Oper} {a : Act} {Q : Exit → Act → World → Prop} (hgd : o.guard = none) (s x : Operand) (t : TypeId)
    (ho : o.op = .call { callee := .builtin .append, args := #[s, x], argTypes := #[t, t] })
    (base : Nat) (e : TypeId) (i : TypeInfo) (size : Nat) (ht : P.underlying t = some (.slice e)) (hi : P.info? e = some i)
    (v : Value) (n : Nat) (xs : List Value) (hs : a.eval s = v) (hown : W.ownsRow base e size v n xs) (A : Option Addr) (c : Nat) (hx : a.eval x = .slice A 0 c)
    (h : wpList P ops Q rest (a.put o.dst v) W) : wpList P ops Q (o :: rest) a W :=
  wpList_plain hgd fun _ hK => by
    have hrun := run_append_zero (P := P) (w := W) base t o.type e i size ht hi v n xs hown A c
    unfold Oper.wp
    simp [execOp, ho, resolve, invoke, builtin, hs, hx, hrun, Result.andThen]
    exact hK _ _ h
/-- what holds between two rounds -/
def ExR (w4 : World) (kb gF : Nat) (l S F : List Nat) (k f go co cf : Nat) (fa : Option Addr) (O : List Nat) (wr : World) : Prop := wr.ownsRow (kb + 1) 3 1 (.slice (some ⟨go, 0, none⟩) O.length co) O.length (zs (up O)) ∧ wr.heap[gF]? = w4.heap[gF]? ∧ go ≠ gF ∧ (f < F.length → fa = some ⟨gF, f, none⟩ ∧ F.length - f ≤ cf) ∧ Mg l S F k f O ∧ RowKit.Below (kb + 1) w4 wr
theorem ExR.below {w4 : World} {kb gF : Nat} {l S F : List Nat} {k f go co cf : Nat} {fa : Option Addr} {O : List Nat} {wr w' : World} (h : ExR w4 kb gF l S F k f go co cf fa O wr) (hg : gF < wr.heap.size) (hk : kb + 1 ≤ wr.heap.size) (hb : RowKit.Below wr.heap.size wr w') : ExR w4 kb gF l S F k f go co cf fa O w' :=
  ⟨Rw.own_below h.1 hb, (hb.block gF hg).trans h.2.1, h.2.2.1, h.2.2.2.1, h.2.2.2.2.1, h.2.2.2.2.2.trans (hb.mono hk)⟩
/-- what expand answers -/
def XpP (w : World) (l : List Nat) (e : Ending) (w' : World) : Prop := ∃ (g : Option Addr) (cap : Nat), e = .returned (.slice g l.length cap) ∧ l.length ≤ cap ∧ Rd w' g (zs (up (ends l))) ∧ NewAt w.heap.size g ∧ RowKit.Below w.heap.size w w'
set_option maxHeartbeats 8000000 in
set_option maxRecDepth 100000 in
theorem expandP_any (l : List Nat) (p q e0 : Option Addr) (n c m d ce : Nat) (w : World) (hn : n = l.length) (h0 : 0 < n) (hl : n ≤ 100000) (hm : m = mm n) (hp : Rd w p (nums l)) (hq : Rd w q (zs (up (places n)))) (he : Rd w e0 (zs (up (ends (red l))))) (hP : Pos l) :
    Calls Try.prog 35 #[.agg #[.slice p n c, .slice q m d], .slice e0 m ce] w (XpP w l) := by
  obtain ⟨i0, hi0, hz0, hz1, hz2⟩ := info_parts info_int
  have hmm : 0 < m ∧ m ≤ n + 1 := by rw [hm]; unfold mm top; split <;> omega
  have hEl : (ends (red l)).length = m := by rw [ends_length, red_length, ← hn, hm]
  have hpm : (ends (red l)).Perm (List.range m) := by have := ends_perm (red l); rwa [red_length, ← hn, ← hm] at this
  obtain ⟨_, _, pe3, _⟩ := perm_getD hpm
  have hb0 : RowKit.Below w.heap.size w (w.alloc (.cells #[.slice p n c, .slice q m d] 44)) := (RowKit.Below.refl _ w).alloc (Nat.le_refl _) _
  have CK := Lib.hid (know_any (ends (red l)) p q e0 n c m d ce (w.alloc (.cells #[.slice p n c, .slice q m d] 44)) hl hm (hq.below hb0) (he.below hb0) hEl (fun i hi => pe3 i (by rw [hEl]; exact hi)))
  have HRK : Hid (Rk l (rws n (ends (red l)) (ends (red l)).length)) := Lib.hid (by rw [hEl, hm, hn]; exact rk_of hP)
  have HRL : Hid ((rws n (ends (red l)) (ends (red l)).length).length = n + 1) := Lib.hid (rws_length _ _ _)
  obtain ⟨R, hR⟩ : ∃ R, R = rws n (ends (red l)) (ends (red l)).length := ⟨_, rfl⟩
  have HN := Lib.hid hn; have HM := Lib.hid hm; have HEL := Lib.hid hEl; have HPE := Lib.hid pe3
  have HP := Lib.hid hp; have HQ := Lib.hid hq; have HE := Lib.hid he; have HPO := Lib.hid hP
  have HSU := Lib.hid (smp_up hP)
  have HB0 := Lib.hid hb0
  have X0 : Hid ((w.alloc (.cells #[.slice p n c, .slice q m d] 44)).heap[w.heap.size]? = some (.cells #[.slice p n c, .slice q m d] 44 (0, 0))) := Lib.hid (World.alloc_heap_new w _)
  unfold KnP at CK
  rw [← hR] at HRK HRL
  simp only [← hR] at CK
  clear hn hm hEl hpm pe3 hp hq he hP hb0 hR
  go_enter Try.func35, Try.ntmps35
  go_wp2_with fail
  refine CK.out.mono ?_
  rintro e w1 ⟨gr, cr, rfl, hRr, hgr, hb1⟩
  obtain ⟨s, hs⟩ : ∃ s, s = w.heap.size := ⟨_, rfl⟩
  rw [World.size_alloc] at hgr hb1
  have B1 : Hid (RowKit.Below s w w1) := Lib.hid (by rw [hs]; exact HB0.out.trans (hb1.mono (Nat.le_succ _)))
  have X1 : Hid (w1.heap[s]? = some (.cells #[.slice p n c, .slice q m d] 44 (0, 0))) := Lib.hid (by rw [hs]; exact (hb1.block _ (Nat.lt_succ_self _)).trans X0.out)
  have R1 := Lib.hid hRr
  have HS := Lib.hid hs
  have Z1 : Hid (s < w1.heap.size) := Lib.hid (Array.getElem?_eq_some_iff.1 X1.out).1
  rw [← hs]
  have k0 : w1.cell? ⟨s, 0, none⟩ = some (.slice p n c) := by simp [World.cell?, X1.out]
  have k1 : ∀ o, (w1.alloc o).cell? ⟨s, 0, none⟩ = some (.slice p n c) := fun o => by
    rw [((RowKit.Below.refl _ w1).alloc (Nat.le_refl _) o).cell (p := ⟨s, 0, none⟩) Z1.out]; exact k0
  clear hRr hgr hb1 CK HB0 X0 hs
  go_wp2_with (at_make; refine wpList_make_own _ rfl _ _ 24 rfl (w1.alloc (.cells #[.slice p n c, .slice q m d, .slice (some ⟨gr, 0, none⟩) (n + 1) cr] 77)).heap.size 3 i0 (.int .i64 0) 1 Try.underlying24 hi0 hz0 hz1 .i64 .i64 (n : Int) n rfl rfl rfl ?c1 ?c2 ?c3 ?_)
  case c1 => rw [hz2]; omega
  case c2 => unfold maxLen; omega
  case c3 => simp
  intro w3 hown3 hgr3
  obtain ⟨kb, hkb⟩ : ∃ kb, kb = w1.heap.size := ⟨_, rfl⟩
  have b3 : RowKit.Below (kb + 1) (w1.alloc (.cells #[.slice p n c, .slice q m d, .slice (some ⟨gr, 0, none⟩) (n + 1) cr] 77)) w3 := (RowKit.Below.refl _ _).grown hgr3 (by rw [World.size_alloc, hkb]; exact Nat.le_refl _) (by simp)
  have B3 : Hid (RowKit.Below kb w1 w3) := Lib.hid (((RowKit.Below.refl kb w1).alloc (by omega) _).trans (b3.mono (Nat.le_succ _)))
  have X3 : Hid (w3.heap[s]? = some (.cells #[.slice p n c, .slice q m d] 44 (0, 0))) := Lib.hid ((B3.out.block s (by rw [hkb]; exact Z1.out)).trans X1.out)
  have Y3 : Hid (w3.heap[kb]? = some (.cells #[.slice p n c, .slice q m d, .slice (some ⟨gr, 0, none⟩) (n + 1) cr] 77 (0, 0))) := Lib.hid ((b3.block kb (Nat.lt_succ_self _)).trans (by rw [hkb]; exact World.alloc_heap_new w1 _))
  have R3 : Hid (Rd w3 (some ⟨gr, 0, none⟩) (nums R)) := Lib.hid (R1.out.below (by rw [← hkb]; exact B3.out))
  have W3 : Hid (RowKit.Below s w w3) := Lib.hid (B1.out.trans (B3.out.mono (by rw [hkb]; exact Nat.le_of_lt Z1.out)))
  have P3 : Hid (Rd w3 p (nums l)) := Lib.hid (HP.out.below (by rw [← HS.out]; exact W3.out))
  have ZS : Hid (s < kb ∧ kb + 1 < w3.heap.size ∧ gr < kb) := Lib.hid ⟨by rw [hkb]; exact Z1.out, by have := hown3.lt _ rfl; rw [hkb]; exact this.2, by
    obtain ⟨a, e, hl', _⟩ := R1.out 0 (by rw [nums_length, HRL.out]; omega)
    cases e; rw [hkb]; exact hl'⟩
  rw [← hkb] at hown3 ⊢
  have O3 := Lib.hid hown3
  have CF := Lib.hid (firsts_any l R p q (some ⟨gr, 0, none⟩) n c m d (n + 1) cr w3 HN.out HRL.out.symm h0 hl P3.out R3.out HPO.out HRK.out)
  have c0 : w3.cell? ⟨kb, 0, none⟩ = some (.slice p n c) := by simp [World.cell?, Y3.out]
  have c1 : w3.cell? ⟨kb, 1, none⟩ = some (.slice q m d) := by simp [World.cell?, Y3.out]
  have c2 : w3.cell? ⟨kb, 2, none⟩ = some (.slice (some ⟨gr, 0, none⟩) (n + 1) cr) := by simp [World.cell?, Y3.out]
  clear hown3 hgr3 b3 k0 k1 hkb R1 B1 X1 Z1 B3
  go_wp2_with fail
  refine CF.out.mono ?_
  rintro e w4 ⟨gF, cF, F, rfl, hFc, hFp, hFu, hFr, hFg, hFb⟩
  have hB34 : RowKit.Below (kb + 2) w3 w4 := hFb.mono (by have := ZS.out; omega)
  have X4 : Hid (w4.heap[s]? = some (.cells #[.slice p n c, .slice q m d] 44 (0, 0))) := Lib.hid ((hFb.block s (by have := ZS.out; omega)).trans X3.out)
  have Y4 : Hid (w4.heap[kb]? = some (.cells #[.slice p n c, .slice q m d, .slice (some ⟨gr, 0, none⟩) (n + 1) cr] 77 (0, 0))) := Lib.hid ((hFb.block kb (by have := ZS.out; omega)).trans Y3.out)
  have O4 : Hid (w4.ownsRow (kb + 1) 3 1 (.slice (some ⟨kb + 1, 0, none⟩) 0 n) 0 (zs (up []))) := Lib.hid (Rw.own_below O3.out hFb)
  have W4 : Hid (RowKit.Below s w w4) := Lib.hid (W3.out.trans (hFb.mono (by have := ZS.out; omega)))
  have B4 : Hid (RowKit.Below (kb + 1) w3 w4) := Lib.hid (hFb.mono (by have := ZS.out; omega))
  have R4 : Hid (Rd w4 (some ⟨gr, 0, none⟩) (nums R)) := Lib.hid (R3.out.below hFb)
  have FR := Lib.hid hFr; have FP := Lib.hid hFp; have FU := Lib.hid hFu
  have FZ : Hid (kb + 1 < gF) := Lib.hid (by have := ZS.out; omega)
  have FL : Hid (F.length ≤ n ∧ F.length ≤ cF ∧ gF < w4.heap.size) := Lib.hid ⟨by rw [hFp.length_eq, zer_length, ← HN.out]; omega, hFc, by
    obtain ⟨a, e, hl', _⟩ := hFr 0 (by rw [zs_length, up_length, hFp.length_eq, zer_length, ← HN.out]; omega)
    cases e; exact hl'⟩
  clear hFc hFp hFu hFr hFg hFb hB34 CF c0 c1 c2 X3 Y3 O3 R3 W3 P3
  go_wp2_with fail
  obtain ⟨S, hS⟩ : ∃ S, S = (ends (red l)).map (pl l.length) := ⟨_, rfl⟩
  have HSE := Lib.hid hS
  rw [← hS] at HSU
  clear hS
  have E0 : Hid (ExR w4 kb gF l S F 0 0 (kb + 1) n cF (some ⟨gF, 0, none⟩) [] w4) := Lib.hid ⟨O4.out, rfl, by have := FZ.out; omega, fun _ => ⟨rfl, by have := FL.out; omega⟩, Mg.start l S F, RowKit.Below.refl _ _⟩
  go_loopw [6, 7, 22] (fun vo vf i wr => ∃ (k f go co cf : Nat) (fa : Option Addr) (O : List Nat), k ≤ m ∧ i = .int .i64 k ∧ vo = .slice (some ⟨go, 0, none⟩) O.length co ∧ vf = .slice fa (F.length - f) cf ∧ f ≤ F.length ∧ Hid (ExR w4 kb gF l S F k f go co cf fa O wr)) (fun _ _ i _ => m - (intOf i).toNat)
  case atStart => exact ⟨0, 0, kb + 1, n, cF, some ⟨gF, 0, none⟩, [], Nat.zero_le _, rfl, rfl, rfl, Nat.zero_le _, E0⟩
  case round =>
    clear E0 O4
    obtain ⟨k, f, go, co, cf, fa, O, hk, rfl, rfl, rfl, hf, HX⟩ := hrel
    have hzs := ZS.out
    have hx4 := X4.out
    have hx4s := X4
    have hbx := (HX.out.2.2.2.2.2.block s (by omega)).trans hx4
    have hby := (HX.out.2.2.2.2.2.block kb (by omega)).trans Y4.out
    by_cases hlt : k < m
    · have j0 : (0 : Int) ≤ (k : Int) := by omega
      have j1 : (k : Int) < (m : Int) := by omega
      have hWw : RowKit.Below s w wr := W4.out.trans (HX.out.2.2.2.2.2.mono (by omega))
      obtain ⟨ae, rfl, ce1⟩ := rd_z (HE.out.below (by rw [← HS.out]; exact hWw)) k (by rw [up_length, HEL.out]; exact hlt)
      rw [up_getD _ _ (by rw [HEL.out]; exact hlt)] at ce1
      have hxm := HPE.out k (by rw [HEL.out]; exact hlt)
      have hkS : k < S.length := by rw [HSE.out, List.length_map, HEL.out]; exact hlt
      have hSk : S[k] = pl n ((ends (red l)).getD k 0) := by
        have h1 : k < (ends (red l)).length := by rw [HEL.out]; exact hlt
        simp only [HSE.out, List.getElem_map, ← HN.out]
        rw [gd h1]
      obtain ⟨x, hx⟩ : ∃ x, x = (ends (red l)).getD k 0 := ⟨_, rfl⟩
      rw [← hx] at ce1 hxm hSk
      obtain ⟨aq, rfl, cq⟩ := rd_z (HQ.out.below (by rw [← HS.out]; exact hWw)) x (by rw [up_length, places_length, ← HM.out]; exact hxm)
      rw [up_getD _ _ (by rw [places_length, ← HM.out]; exact hxm), places_at n x (by rw [← HM.out]; exact hxm)] at cq
      have hyn : pl n x ≤ n := pl_le (by rw [← HM.out]; exact hxm)
      have hsm : Smp l.length (pl n x) := ⟨x, by rw [← HN.out, ← HM.out]; exact hxm, by rw [HN.out]⟩
      obtain ⟨y, hy⟩ : ∃ y, y = pl n x := ⟨_, rfl⟩
      rw [← hy] at cq hyn hsm hSk
      have HSM := Lib.hid hsm; have HSK : Hid (k < S.length ∧ ∀ h : k < S.length, S[k] = y) := Lib.hid ⟨hkS, fun _ => hSk⟩
      have x0 : (0 : Int) ≤ (x : Int) := by omega
      have x1 : (x : Int) < (m : Int) := by omega
      have l1 : wr.cell? ⟨s, 1, none⟩ = some (.slice (some aq) m d) := by simp [World.cell?, hbx]
      have HWW := Lib.hid hWw
      clear hx hy hsm hkS hSk hWw hxm hbx hby
      go_wp2_with fail
      obtain ⟨z, hz⟩ : ∃ z, z = y % 3 := ⟨_, rfl⟩
      have HZ := Lib.hid hz
      have HX0 := HX
      clear hz l1 ce1 cq
      have mixed : Try.prog.follows Departure.mixedOrders = true := by kernel_rfl
      go_loopg [6, 7] F.length (fun gg vo vf wr => ∃ (f go co cf : Nat) (fa : Option Addr) (O : List Nat), vo = .slice (some ⟨go, 0, none⟩) O.length co ∧ vf = .slice fa (F.length - f) cf ∧ f ≤ F.length ∧ F.length - f ≤ gg ∧ Hid (ExR w4 kb gF l S F k f go co cf fa O wr))
      case atStart => exact ⟨f, go, co, cf, fa, O, rfl, rfl, hf, by omega, HX0⟩
      case round =>
        clear HX HX0 HWW hx4 hf
        obtain ⟨f, go, co, cf, fa, O, rfl, rfl, hf, hgm, HX⟩ := hrel
        have hby := (HX.out.2.2.2.2.2.block kb (by omega)).trans Y4.out
        by_cases hfl : f < F.length
        · obtain ⟨rfl, hcf⟩ := HX.out.2.2.2.1 hfl
          have hfl0 : 0 < F.length - f := by omega
          have hWw : RowKit.Below s w wr := W4.out.trans (HX.out.2.2.2.2.2.mono (by omega))
          have hfz := FZ.out
          have hflz := FL.out
          obtain ⟨aF, eF, cF1⟩ := rd_z FR.out f (by rw [up_length]; exact hfl)
          cases eF
          rw [up_getD _ _ hfl, Addr.add_lit, Nat.zero_add] at cF1
          have hFm := zer_mem.1 (FP.out.mem_iff.1 (List.getElem_mem hfl))
          rw [gd hfl] at cF1
          obtain ⟨v, hv⟩ : ∃ v, v = F[f] := ⟨_, rfl⟩
          rw [← hv] at cF1 hFm
          have hgw : gF < wr.heap.size := by
            have h1 := HX.out.2.1
            rw [Array.getElem?_eq_getElem hflz.2.2] at h1
            exact (Array.getElem?_eq_some_iff.1 h1).1
          have cF2 : wr.cell? ⟨gF, f, none⟩ = some (.int .i64 (v : Nat)) := by rw [← cF1]; exact World.cell?_of_block HX.out.2.1
          have l0 := fun n os => cell_grown (a := ⟨gF, f, none⟩) hgw cF2 n os
          have hkbl := (Array.getElem?_eq_some_iff.1 hby).1
          have q0 := fun u os => cell_grown (w := wr) (a := ⟨kb, 0, none⟩) (v := .slice p n c) hkbl (by simp [World.cell?, hby]) u os
          have q1 := fun u os => cell_grown (w := wr) (a := ⟨kb, 1, none⟩) (v := .slice (some aq) m d) hkbl (by simp [World.cell?, hby]) u os
          have q2 := fun u os => cell_grown (w := wr) (a := ⟨kb, 2, none⟩) (v := .slice (some ⟨gr, 0, none⟩) (n + 1) cr) hkbl (by simp [World.cell?, hby]) u os
          have hPw : Rd wr p (nums l) := HP.out.below (by rw [← HS.out]; exact hWw)
          have hRw : Rd wr (some ⟨gr, 0, none⟩) (nums R) := fun i hi => by
            obtain ⟨a, e, hl3, hc⟩ := R4.out i hi
            cases e
            exact ⟨_, rfl, Nat.lt_of_lt_of_le hl3 HX.out.2.2.2.2.2.size, by rw [← hc]; exact HX.out.2.2.2.2.2.cell (by rw [add_block]; show gr < kb + 1; omega)⟩
          have kv := fun u os => key_any l R p (some aq) (some ⟨gr, 0, none⟩) n c m d (n + 1) cr v z (grow (wr.drewN u) os) HN.out HRL.out.symm (by have := hFm.2; have := HN.out; omega) (rd_grow hPw u os) (rd_grow hRw u os)
          have ky := fun u os => key_any l R p (some aq) (some ⟨gr, 0, none⟩) n c m d (n + 1) cr y z (grow (wr.drewN u) os) HN.out HRL.out.symm (by omega) (rd_grow hPw u os) (rd_grow hRw u os)
          have hkl : lexL (tl (keyT l R v z)) (tl (keyT l R y z)) = Od.lt l v y := by rw [HZ.out]; exact key_lt HPO.out HRK.out hFm.1 hFm.2 HSM.out
          obtain ⟨kx, hkx⟩ : ∃ kx, kx = keyT l R v z := ⟨_, rfl⟩
          obtain ⟨kyv, hky⟩ : ∃ kyv, kyv = keyT l R y z := ⟨_, rfl⟩
          simp only [← hkx] at kv
          simp only [← hky] at ky
          rw [← hkx, ← hky] at hkl
          have kc := fun u os => compare_any kx kyv (grow (wr.drewN u) os)
          have hlc := lexC_lt (tl kx) (tl kyv)
          rw [hkl] at hlc
          obtain ⟨cv, hcv⟩ : ∃ cv, cv = lexC (tl kx) (tl kyv) := ⟨_, rfl⟩
          simp only [← hcv] at kc
          rw [← hcv] at hlc
          have HLC := Lib.hid hlc
          have zz : (y : Int) % 3 = (z : Int) := by rw [HZ.out]; omega
          have zt : (y : Int).tmod 3 = (z : Int) := by rw [Int.tmod_eq_emod_of_nonneg (by omega)]; exact zz
          have g0 : decide (0 < F.length - f) = true := decide_eq_true hfl0
          have g0' : decide ((0 : Int) < ((F.length - f : Nat) : Int)) = true := decide_eq_true (by omega)
          have HVF : Hid ((∀ h : f < F.length, F[f] = v) ∧ gF < wr.heap.size) := Lib.hid ⟨fun _ => hv.symm, hgw⟩
          obtain ⟨ln, hln⟩ : ∃ ln, ln = F.length - f := ⟨_, rfl⟩
          rw [← hln] at g0 g0' hfl0 hcf hgm ⊢
          have HLN := Lib.hid hln; have HFL := Lib.hid hfl; have HFM := Lib.hid hFm
          have lp : (0 : Int) < (ln : Int) := by omega
          obtain ⟨x1, x2, x3⟩ := kx
          obtain ⟨y1, y2, y3⟩ := kyv
          clear hkl hlc hcv hkx hky hPw hRw hWw hby cF1 cF2 hv hFm hgw hfz hflz hln hfl hf hkbl
          simp only [encT] at kv ky kc
          by_cases hneg : cv < 0
          · have d1 : decide (cv < 0) = true := decide_eq_true hneg
            go_wp2_with fail
            go_quiet_grown (first
              | (go_at_call 52; with_reducible refine Calls.grown_of (kv _ _))
              | (go_at_call 52; with_reducible refine Calls.grown_of (ky _ _))
              | (go_at_call 45; with_reducible refine Calls.grown_of (kc _ _)))
            have hlt2 : Od.lt l v y = true := by rw [← HLC.out]; exact d1
            have HXg := Lib.hid (HX.out.below HVF.out.2 (by have := HX.out.1.lt go rfl; omega) (grow_below wr nq osq))
            have cFg : (grow (wr.drewN nq) osq).cell? ⟨gF, f, none⟩ = some (.int .i64 (v : Nat)) := l0 nq osq
            have hgg : gF < (grow (wr.drewN nq) osq).heap.size := Nat.lt_of_lt_of_le HVF.out.2 (grow_below wr nq osq).size
            have hkg : kb + 1 < (grow (wr.drewN nq) osq).heap.size := by have := HX.out.1.lt go rfl; have := (grow_below wr nq osq).size; omega
            clear l0 q0 q1 q2 kv ky kc hneg d1
            generalize (grow (wr.drewN nq) osq) = wg at HXg cFg hgg hkg ⊢
            have HMG : Hid (Mg l S F k (f + 1) (O ++ [v])) := Lib.hid (by
              have := HXg.out.2.2.2.2.1.first FU.out HSU.out HFL.out HSK.out.1 (by rw [HVF.out.1 HFL.out, HSK.out.2]; exact hlt2)
              rwa [HVF.out.1 HFL.out] at this)
            have HOg := HXg.out.1
            have hOl : O.length ≤ 1000000 := by
              have h1 := HXg.out.2.2.2.2.1.perm.length_eq
              rw [List.length_append, List.length_take] at h1
              have h2 := List.length_filter_le (fun x => decide (x < l.length)) (S.take k)
              rw [List.length_take] at h2
              have := FL.out.1
              omega
            have b1 : (1 : Int) ≤ (ln : Int) := by omega
            have b2 : (ln : Int) ≤ (cf : Int) := by omega
            have b3 : ln ≤ cf := hcf
            have b4 : 1 ≤ ln := hfl0
            have b5 : 0 < ln := hfl0
            have cFd : (wg.drew.alloc (.cells #[.int .i64 (v : Nat)] 3)).cell? ⟨gF, f, none⟩ = some (.int .i64 (v : Nat)) := by
              rw [← cFg]; exact (((RowKit.Below.refl _ wg).drew).alloc (Nat.le_refl _) _).cell (p := ⟨gF, f, none⟩) hgg
            have hsn : zs (up (O ++ [v])) = zs (up O) ++ [.int .i64 (v : Nat)] := by rw [up_app, zs_app]; rfl
            have HSN := Lib.hid hsn
            clear hlt2 hsn hcf hfl0 g0 g0'
            by_cases hc1 : cf = 1
            · have hln1 : ln = 1 := by omega
              subst hc1 hln1
              go_wp2_with fail
              go_region_law (first
                | (refine step_own2 wg.drew (by rfl) _ _ 24 (by rfl) (kb + 1) 3 i0 (.int .i64 0) 1 8 Try.underlying24 hi0 hz0 hz1 hz2 (by rfl) (by decide) (.slice (some ⟨go, 0, none⟩) O.length co) O.length _ (by rfl) HOg [.int .i64 (v : Nat)] (by rfl) (by rfl) (by rfl) (by omega) (by omega) (by show kb + 1 ≤ wg.heap.size; omega) ?_; intro g1 cap1 w1 hown hgr hgl
                   have HE1 : Hid (∀ (fa' : Option Addr) (cf' : Nat), ExR w4 kb gF l S F k (f + 1) g1 cap1 cf' fa' (O ++ [v]) w1) := Lib.hid (fun fa' cf' => ⟨by rw [HSN.out, List.length_append]; exact hown, (hgr.block gF (by simp; omega) (fun e => HXg.out.2.2.1 (by simp [Value.ownBlock] at e; exact e.symm))).trans ((Below.heap_alloc _ _ _ hgg).trans HXg.out.2.1), by
                     rcases hgl with h | h
                     · simp [Value.ownBlock] at h; rw [← h]; exact HXg.out.2.2.1
                     · have h9 : wg.drew.heap.size = wg.heap.size := rfl
                       omega, fun h => absurd h (by have := HLN.out; omega), HMG.out, HXg.out.2.2.2.2.2.trans ((((RowKit.Below.refl (kb + 1) wg).drew).alloc (by show kb + 1 ≤ wg.heap.size; omega) _).grown hgr (by simp; omega) (fun j e => by
                         have := (HOg.lt go rfl).1
                         simp [Value.ownBlock] at e; omega))⟩)
                   clear hown hgr hgl))
              all_goals go_wp2_with fail
              all_goals go_roundg (F.length - (f + 1))
              all_goals (first
                | (have := HLN.out; omega)
                | exact ⟨f + 1, g1, cap1, _, _, O ++ [v], by rw [List.length_append]; rfl, by rw [show 0 = F.length - (f + 1) by have := HLN.out; omega], by have := HFL.out; omega, Nat.le_refl _, Lib.hid (HE1.out _ _)⟩)
            · go_wp2_with fail
              go_region_law (first
                | (refine step_own2 wg.drew (by rfl) _ _ 24 (by rfl) (kb + 1) 3 i0 (.int .i64 0) 1 8 Try.underlying24 hi0 hz0 hz1 hz2 (by rfl) (by decide) (.slice (some ⟨go, 0, none⟩) O.length co) O.length _ (by rfl) HOg [.int .i64 (v : Nat)] (by rfl) (by rfl) (by rfl) (by omega) (by omega) (by show kb + 1 ≤ wg.heap.size; omega) ?_; intro g1 cap1 w1 hown hgr hgl
                   have HE1 : Hid (ExR w4 kb gF l S F k (f + 1) g1 cap1 (cf - 1) (some ⟨gF, f + 1, none⟩) (O ++ [v]) w1) := Lib.hid ⟨by rw [HSN.out, List.length_append]; exact hown, (hgr.block gF (by simp; omega) (fun e => HXg.out.2.2.1 (by simp [Value.ownBlock] at e; exact e.symm))).trans ((Below.heap_alloc _ _ _ hgg).trans HXg.out.2.1), by
                     rcases hgl with h | h
                     · simp [Value.ownBlock] at h; rw [← h]; exact HXg.out.2.2.1
                     · have h9 : wg.drew.heap.size = wg.heap.size := rfl
                       omega, fun h => ⟨rfl, by have := HLN.out; omega⟩, HMG.out, HXg.out.2.2.2.2.2.trans ((((RowKit.Below.refl (kb + 1) wg).drew).alloc (by show kb + 1 ≤ wg.heap.size; omega) _).grown hgr (by simp; omega) (fun j e => by
                         have := (HOg.lt go rfl).1
                         simp [Value.ownBlock] at e; omega))⟩
                   clear hown hgr hgl))
              all_goals go_wp2_with fail
              all_goals go_roundg (F.length - (f + 1))
              all_goals (first
                | (have := HLN.out; omega)
                | exact ⟨f + 1, g1, cap1, cf - 1, _, O ++ [v], by rw [List.length_append]; rfl, by rw [show ln - 1 = F.length - (f + 1) by have := HLN.out; omega], by have := HFL.out; omega, Nat.le_refl _, HE1⟩)
          · have d1 : decide (cv < 0) = false := decide_eq_false hneg
            go_wp2_with fail
            go_quiet_grown (first
              | (go_at_call 52; with_reducible refine Calls.grown_of (kv _ _))
              | (go_at_call 52; with_reducible refine Calls.grown_of (ky _ _))
              | (go_at_call 45; with_reducible refine Calls.grown_of (kc _ _)))
            have HLTY : Hid (y < n → ∀ h : f < F.length, Od.lt l y F[f] = true) := Lib.hid (fun hyn h => by
              have h1 : Od.lt l v y = false := by rw [← HLC.out]; exact d1
              rw [HVF.out.1 h]
              have h2 := smp_mod HSM.out
              have h3 := HFM.out
              have h4 := HN.out
              exact lt_total (by omega) (by omega) (by omega) h1)
            have HXg := Lib.hid (HX.out.below HVF.out.2 (by have := HX.out.1.lt go rfl; omega) (grow_below wr nq osq))
            have HGG : Hid (gF < (grow (wr.drewN nq) osq).heap.size) := Lib.hid (Nat.lt_of_lt_of_le HVF.out.2 (grow_below wr nq osq).size)
            have HKG : Hid (kb + 1 < (grow (wr.drewN nq) osq).heap.size) := Lib.hid (by have := HX.out.1.lt go rfl; have := (grow_below wr nq osq).size; omega)
            have hfF : f ≤ F.length := Nat.le_of_lt HFL.out
            have HLNN := HLN
            obtain ⟨fa, hfa⟩ : ∃ fa, fa = (some ⟨gF, f, none⟩ : Option Addr) := ⟨_, rfl⟩
            rw [← hfa] at HXg ⊢
            clear l0 q0 q1 q2 kv ky kc hneg d1 hfa hcf hfl0 g0 g0' lp
            generalize (grow (wr.drewN nq) osq) = wg at HXg HGG HKG ⊢
            have hgg : gF < wg.heap.size := HGG.out
            have hkg : kb + 1 < wg.heap.size := HKG.out
            have hbx := (HXg.out.2.2.2.2.2.block s (by omega)).trans hx4s.out
            have cp0 : wg.cell? ⟨s, 0, none⟩ = some (.slice p n c) := by simp [World.cell?, hbx]
            have HOg := HXg.out.1
            have hOl : O.length ≤ 1000000 := by
              have h1 := HXg.out.2.2.2.2.1.perm.length_eq
              rw [List.length_append, List.length_take] at h1
              have h2 := List.length_filter_le (fun x => decide (x < l.length)) (S.take k)
              rw [List.length_take] at h2
              have := FL.out.1
              omega
            have HFFL := Lib.hid hfF
            clear hbx
            by_cases hyn2 : y < n
            · have HMG : Hid (Mg l S F (k + 1) f (O ++ [y])) := Lib.hid (by
                have := HXg.out.2.2.2.2.1.sample FU.out HSU.out HSK.out.1 (by rw [HSK.out.2, ← HN.out]; exact hyn2) (fun h => by rw [HSK.out.2]; exact HLTY.out hyn2 h)
                rwa [HSK.out.2] at this)
              have t1 : (y : Int) < (n : Int) := by omega
              have hbase : kb + 1 ≤ wg.heap.size := by omega
              clear hyn2
              go_wp2_with (at_builtin; refine Rw.push rfl _ _ 24 rfl (kb + 1) 3 i0 (.int .i64 0) 1 8 Try.underlying24 hi0 hz0 hz1 hz2 rfl (by decide) _ _ _ rfl HOg [.int .i64 (y : Nat)] rfl rfl rfl (by omega) (by omega) hbase ?_)
              intro g7 c7 w7 hown7 hgr7 hgl7 _ hbw7
              have HE1 : Hid (ExR w4 kb gF l S F (k + 1) f g7 c7 cf fa (O ++ [y]) w7) := Lib.hid ⟨by rw [up_app, zs_app, List.length_append]; exact hown7, (hgr7.block gF hgg (fun e => HXg.out.2.2.1 (by simp [Value.ownBlock] at e; exact e.symm))).trans HXg.out.2.1, by
                rcases hgl7 with h | h
                · simp [Value.ownBlock] at h; rw [← h]; exact HXg.out.2.2.1
                · omega, HXg.out.2.2.2.1, HMG.out, HXg.out.2.2.2.2.2.trans hbw7⟩
              clear hown7 hgr7 hgl7 hbw7
              go_wp2_with fail
              go_roundw
              case rel => exact ⟨k + 1, f, g7, c7, cf, fa, O ++ [y], by omega, by go_num, by rw [List.length_append]; rfl, by first | rfl | (rw [HLNN.out]), HFFL.out, HE1⟩
              case measure => simp [intOf]; omega
            · have HMG : Hid (Mg l S F (k + 1) f O) := Lib.hid (HXg.out.2.2.2.2.1.skip HSK.out.1 (by rw [HSK.out.2, ← HN.out]; exact hyn2))
              have t1 : ¬ (y : Int) < (n : Int) := by omega
              have HE1 : Hid (ExR w4 kb gF l S F (k + 1) f go co cf fa O wg) := Lib.hid ⟨HXg.out.1, HXg.out.2.1, HXg.out.2.2.1, HXg.out.2.2.2.1, HMG.out, HXg.out.2.2.2.2.2⟩
              clear hyn2
              go_wp2_with fail
              go_roundw
              case rel => exact ⟨k + 1, f, go, co, cf, fa, O, by omega, by go_num, rfl, by first | rfl | (rw [HLNN.out]), HFFL.out, HE1⟩
              case measure => simp [intOf]; omega
        · have hff : F.length - f = 0 := by omega
          have HLNN : Hid (0 = F.length - f) := Lib.hid hff.symm
          have hnf : ¬ f < F.length := hfl
          have HLTY : Hid (y < n → ∀ h : f < F.length, Od.lt l y F[f] = true) := Lib.hid (fun _ h => absurd h hnf)
          have hgw : gF < wr.heap.size := by
            have h1 := HX.out.2.1
            rw [Array.getElem?_eq_getElem FL.out.2.2] at h1
            exact (Array.getElem?_eq_some_iff.1 h1).1
          have HXg : Hid (∀ u, ExR w4 kb gF l S F k f go co cf fa O (wr.drewN u)) := Lib.hid (fun u => HX.out.below hgw (by have := HX.out.1.lt go rfl; omega) ⟨rfl, rfl, rfl, Nat.le_refl _, fun _ _ => rfl⟩)
          have HKG0 : kb + 1 < wr.heap.size := by have := HX.out.1.lt go rfl; omega
          rw [hff]
          have hfF := hf
          clear hff hfl hnf hby
          go_wp2_with fail
          go_big_quiet (fail)
          have HGG : Hid (gF < (wr.drewN nq).heap.size) := Lib.hid hgw
          have HKG : Hid (kb + 1 < (wr.drewN nq).heap.size) := Lib.hid HKG0
          have HXg := Lib.hid (HXg.out nq)
          clear hgw HKG0
          generalize (wr.drewN nq) = wg at HXg HGG HKG ⊢
          have hgg : gF < wg.heap.size := HGG.out
          have hkg : kb + 1 < wg.heap.size := HKG.out
          have hbx := (HXg.out.2.2.2.2.2.block s (by omega)).trans hx4s.out
          have cp0 : wg.cell? ⟨s, 0, none⟩ = some (.slice p n c) := by simp [World.cell?, hbx]
          have HOg := HXg.out.1
          have hOl : O.length ≤ 1000000 := by
            have h1 := HXg.out.2.2.2.2.1.perm.length_eq
            rw [List.length_append, List.length_take] at h1
            have h2 := List.length_filter_le (fun x => decide (x < l.length)) (S.take k)
            rw [List.length_take] at h2
            have := FL.out.1
            omega
          have HFFL := Lib.hid hfF
          clear hbx
          by_cases hyn2 : y < n
          · have HMG : Hid (Mg l S F (k + 1) f (O ++ [y])) := Lib.hid (by
              have := HXg.out.2.2.2.2.1.sample FU.out HSU.out HSK.out.1 (by rw [HSK.out.2, ← HN.out]; exact hyn2) (fun h => by rw [HSK.out.2]; exact HLTY.out hyn2 h)
              rwa [HSK.out.2] at this)
            have t1 : (y : Int) < (n : Int) := by omega
            have hbase : kb + 1 ≤ wg.heap.size := by omega
            clear hyn2
            go_wp2_with (at_builtin; refine Rw.push rfl _ _ 24 rfl (kb + 1) 3 i0 (.int .i64 0) 1 8 Try.underlying24 hi0 hz0 hz1 hz2 rfl (by decide) _ _ _ rfl HOg [.int .i64 (y : Nat)] rfl rfl rfl (by omega) (by omega) hbase ?_)
            intro g7 c7 w7 hown7 hgr7 hgl7 _ hbw7
            have HE1 : Hid (ExR w4 kb gF l S F (k + 1) f g7 c7 cf fa (O ++ [y]) w7) := Lib.hid ⟨by rw [up_app, zs_app, List.length_append]; exact hown7, (hgr7.block gF hgg (fun e => HXg.out.2.2.1 (by simp [Value.ownBlock] at e; exact e.symm))).trans HXg.out.2.1, by
              rcases hgl7 with h | h
              · simp [Value.ownBlock] at h; rw [← h]; exact HXg.out.2.2.1
              · omega, HXg.out.2.2.2.1, HMG.out, HXg.out.2.2.2.2.2.trans hbw7⟩
            clear hown7 hgr7 hgl7 hbw7
            go_wp2_with fail
            go_roundw
            case rel => exact ⟨k + 1, f, g7, c7, cf, fa, O ++ [y], by omega, by go_num, by rw [List.length_append]; rfl, by first | rfl | (rw [HLNN.out]), HFFL.out, HE1⟩
            case measure => simp [intOf]; omega
          · have HMG : Hid (Mg l S F (k + 1) f O) := Lib.hid (HXg.out.2.2.2.2.1.skip HSK.out.1 (by rw [HSK.out.2, ← HN.out]; exact hyn2))
            have t1 : ¬ (y : Int) < (n : Int) := by omega
            have HE1 : Hid (ExR w4 kb gF l S F (k + 1) f go co cf fa O wg) := Lib.hid ⟨HXg.out.1, HXg.out.2.1, HXg.out.2.2.1, HXg.out.2.2.2.1, HMG.out, HXg.out.2.2.2.2.2⟩
            clear hyn2
            go_wp2_with fail
            go_roundw
            case rel => exact ⟨k + 1, f, go, co, cf, fa, O, by omega, by go_num, rfl, by first | rfl | (rw [HLNN.out]), HFFL.out, HE1⟩
            case measure => simp [intOf]; omega
    · obtain rfl : k = m := by omega
      have k1 : ¬ (k : Int) < (k : Int) := by omega
      have hSl : S.length = k := by rw [HSE.out, List.length_map, HEL.out]
      have hMg := HX.out.2.2.2.2.1
      rw [← hSl] at hMg
      have hall := hMg.done FU.out (by rw [HSE.out]; exact ((FP.out.symm.append_left _).symm.trans smp_list))
      have hWw : RowKit.Below s w wr := W4.out.trans (HX.out.2.2.2.2.2.mono (by omega))
      have hlen : O.length + (F.length - f) = l.length := by rw [← ends_length l, ← hall, List.length_append, List.length_drop]
      have FIN : Hid (∀ (g7 c7 : Nat) (w7 : World), w7.ownsRow (kb + 1) 3 1 (.slice (some ⟨g7, 0, none⟩) (O.length + (F.length - f)) c7) (O.length + (F.length - f)) (zs (up (O ++ F.drop f))) → RowKit.Below (kb + 1) wr w7 → XpP w l (.returned (.slice (some ⟨g7, 0, none⟩) (O.length + (F.length - f)) c7)) w7) := Lib.hid (fun g7 c7 w7 ho hb => by
        have hc7 : O.length + (F.length - f) ≤ c7 := by
          rcases ho.2 with ⟨h, _⟩ | ⟨g2, cap2, cur, h, _, _, hc2, _⟩
          · cases h
          · simp only [Value.slice.injEq] at h; rw [h.2.2]; exact hc2
        have hg7 := (ho.lt g7 rfl).1
        have hrd := Rd.of_own ho
        rw [hall] at hrd
        exact ⟨_, c7, by rw [hlen], by rw [← hlen]; exact hc7, hrd, fun a e => by cases e; show w.heap.size ≤ g7; rw [← HS.out]; omega, by rw [← HS.out]; exact hWw.trans (hb.mono (by omega))⟩)
      have HOg := HX.out.1
      have hOl : O.length + (F.length - f) ≤ 1000000 := by rw [hlen, ← HN.out]; omega
      have hbase : kb + 1 ≤ wr.heap.size := by have := HOg.lt go rfl; omega
      by_cases hfl : f < F.length
      · obtain ⟨rfl, hcf⟩ := HX.out.2.2.2.1 hfl
        have hnews : ∀ j u, (zs (up (F.drop f)))[j]? = some u → wr.cell? ((⟨gF, f, none⟩ : Addr).add j) = some u := fun j u hj => by
          have hj2 : j < (zs (up (F.drop f))).length := (List.getElem?_eq_some_iff.1 hj).1
          rw [zs_length, up_length, List.length_drop] at hj2
          obtain ⟨a, e, _, hc⟩ := FR.out (f + j) (by rw [zs_length, up_length]; omega)
          cases e
          have e1 : ((⟨gF, 0, none⟩ : Addr).add (f + j)) = ⟨gF, f + j, none⟩ := by rw [Addr.add_lit, Nat.zero_add]
          have e2 : ((⟨gF, f, none⟩ : Addr).add j) = ⟨gF, f + j, none⟩ := by rw [Addr.add_lit]
          rw [e1] at hc
          rw [e2, show wr.cell? ⟨gF, f + j, none⟩ = w4.cell? ⟨gF, f + j, none⟩ from World.cell?_of_block HX.out.2.1, hc, ← hj]
          have h3 : f + j < F.length := by omega
          simp [zs, up, List.getD_eq_getElem?_getD, h3]
        clear hall hWw hlen hMg hSl hlt hbx hby
        go_wp2_with (at_builtin; refine wpList_append_lies _ rfl _ _ 24 rfl (kb + 1) 3 i0 (.int .i64 0) 1 8 Try.underlying24 hi0 hz0 hz1 hz2 rfl (by decide) _ _ _ rfl HOg ⟨gF, f, none⟩ (F.length - f) cf (zs (up (F.drop f))) rfl (by rw [zs_length, up_length, List.length_drop, Nat.mul_one]) hnews (by intro u hu; simp only [zs, List.mem_map] at hu; obtain ⟨z, _, rfl⟩ := hu; rfl) (by omega) (by unfold maxLen; omega) (by omega) hbase wr.heap.size rfl ?_)
        intro g7 c7 w7 hown7 hgr7 _ _
        have F7 := Lib.hid (FIN.out g7 c7 w7 (by rw [up_app, zs_app]; exact hown7) ((RowKit.Below.refl _ wr).grown hgr7 hbase (fun j e => by have := (HOg.lt go rfl).1; simp [Value.ownBlock] at e; omega)))
        clear hown7 hgr7
        go_wp2_with fail
        go_ret
        exact F7.out
      · have hff : F.length - f = 0 := by omega
        have F7 := Lib.hid (FIN.out go co wr (by rw [hff, Nat.add_zero, List.drop_eq_nil_of_le (by omega), List.append_nil]; exact HOg) (RowKit.Below.refl _ _))
        rw [hff, Nat.add_zero] at F7
        rw [hff]
        clear hall hWw hlen hMg hSl hlt hbx hby hff hfl
        go_wp2_with (at_builtin; refine wpList_app0 rfl _ _ 24 rfl (kb + 1) 3 i0 1 Try.underlying24 hi0 _ _ _ rfl HOg fa cf rfl ?_)
        go_wp2_with fail
        go_ret
        exact F7.out
end Go.Proofs.Ytonlbcibfbbpgaa.Sk
