/- The walks of the document's Samples, Triples. -/
import Derived.Test.YtonlbcibfbbpgaaSkA
namespace Go.Proofs.Ytonlbcibfbbpgaa.Sk
open Go.RowKit Go.Lib Rw Nm Ls Od

/-- places, and an error's number -/
def PL (W : World) (L : List Nat) (r : Int) (e : Ending) (w' : World) : Prop := ∃ (q : Option Addr) (c : Nat), e = .returned (.tuple #[.slice q L.length c, .int .i64 r]) ∧ L.length ≤ c ∧ Rd w' q (zs (up L)) ∧ Below W.heap.size W w'
theorem pl_mk {W w' : World} {L : List Nat} {r : Int} {n : Nat} {q : Option Addr} {c : Nat} (hL : L.length = n) (hc : n ≤ c) (hr : Rd w' q (zs (up L))) (hb : Below W.heap.size W w') : PL W L r (.returned (.tuple #[.slice q n c, .int .i64 r])) w' := by
  subst hL; exact ⟨q, c, rfl, hc, hr, hb⟩
/-- the same, its length a number -/
def PLn (W : World) (n : Nat) (L : List Nat) (r : Int) (e : Ending) (w' : World) : Prop := ∃ (q : Option Addr) (c : Nat), e = .returned (.tuple #[.slice q n c, .int .i64 r]) ∧ n ≤ c ∧ Rd w' q (zs (up L)) ∧ Below W.heap.size W w'
theorem pln_of {W : World} {n : Nat} {L : List Nat} {r : Int} (h : L.length = n) {f : FuncId} {a : Array Value} {P : Program} (hc : Calls P f a W (PL W L r)) : Calls P f a W (PLn W n L r) :=
  hc.mono fun _ _ ⟨q, c, e, h1, h2, h4⟩ => ⟨q, c, by rw [e, h], by rw [← h]; exact h1, h2, h4⟩
/-- a triple -/
def N3 (W : World) (L : List Nat) (e : Ending) (w' : World) : Prop := ∃ (q : Option Addr) (c : Nat), e = .returned (.slice q 3 c) ∧ Rd w' q (nums L) ∧ NewAt W.heap.size q ∧ Below W.heap.size W w'
def smpL (l : List Nat) : List Nat := if okL l = true then places l.length else []
def smpE (l : List Nat) : Int := if okL l = true then 0 else 1
theorem smp_no {l : List Nat} (h : okL l = false) : smpL l = [] ∧ smpE l = 1 := by unfold smpL smpE; rw [h]; exact ⟨rfl, rfl⟩
theorem smp_yes {l : List Nat} (h : okL l = true) : smpL l = places l.length ∧ smpE l = 0 := by unfold smpL smpE; rw [h]; exact ⟨rfl, rfl⟩
theorem rsamples_any (l : List Nat) (p : Option Addr) (c : Nat) (w : World) (hp : Rd w p (nums l)) (hl : l.length ≤ 17592186044416) :
    Calls Try.prog 8 #[.slice p l.length c] w (PL w (smpL l) (smpE l)) := by
  have HC := Lib.hid (rchecks_any l p c w hp hl)
  rcases chk_cases l with ⟨ho, hk⟩ | ⟨ho, hk⟩
  · have E := Lib.hid (smp_yes ho)
    have hP := Lib.hid (rplaces_any l.length w (by have := ok_len ho; omega))
    rw [hk] at HC
    clear ho hk hp hl
    obtain ⟨n, hn⟩ : ∃ n, n = l.length := ⟨_, rfl⟩
    rw [← hn] at HC hP E ⊢
    clear hn
    go_enter Try.func8, Try.ntmps8
    go_wp2_with fail
    refine HC.out.mono ?_
    rintro e w' ⟨rfl, rfl⟩
    go_wp2_with fail
    refine hP.out.mono ?_
    rintro e w1 ⟨q, c1, rfl, hc, hr, _, hb⟩
    have HR := Lib.hid hr; have HB := Lib.hid hb
    clear hr hb
    go_wp2_with fail
    refine bodyPost_ret (v := .tuple #[.slice q (places n).length c1, .int .i64 0]) (by simp [results, Try.results8, go_sem]) rfl ?_
    rw [E.out.1, E.out.2]
    exact pl_mk rfl hc HR.out HB.out
  · have E := Lib.hid (smp_no ho)
    rw [hk] at HC
    clear ho hk hp hl
    obtain ⟨n, hn⟩ : ∃ n, n = l.length := ⟨_, rfl⟩
    rw [← hn] at HC ⊢
    clear hn
    go_enter Try.func8, Try.ntmps8
    go_wp2_with fail
    refine HC.out.mono ?_
    rintro e w' ⟨rfl, rfl⟩
    go_wp2_with fail
    refine bodyPost_ret (v := .tuple #[.slice none 0 0, .int .i64 1]) (by simp [results, Try.results8, go_sem]) rfl ?_
    rw [E.out.1, E.out.2]
    exact pl_mk rfl (Nat.le_refl _) (Rd.nil _ _) (Below.refl _ _)
/-- rows of numbers, and an error's number -/
def TrP (W : World) (M : List (List Nat)) (r : Int) (e : Ending) (w' : World) : Prop := ∃ (q : Option Addr) (c : Nat), e = .returned (.tuple #[.slice q M.length c, .int .i64 r]) ∧ M.length ≤ c ∧ RecsAt w' q M ∧ Below W.heap.size W w'
theorem tr_mk {W w' : World} {M : List (List Nat)} {r : Int} {n : Nat} {q : Option Addr} {c : Nat} (hL : M.length = n) (hc : n ≤ c) (hr : RecsAt w' q M) (hb : Below W.heap.size W w') : TrP W M r (.returned (.tuple #[.slice q n c, .int .i64 r])) w' := by
  subst hL; exact ⟨q, c, rfl, hc, hr, hb⟩
def trL (l : List Nat) : List (List Nat) := if okL l = true then trips l else []
theorem tr_no {l : List Nat} (h : okL l = false) : trL l = [] := by unfold trL; rw [h]; rfl
theorem tr_yes {l : List Nat} (h : okL l = true) : trL l = trips l := by unfold trL; rw [h]; rfl
/-- so many triples gathered -/
def TrR (l : List Nat) (hB n : Nat) (W1 : World) (v i : Value) (wr : World) : Prop := ∃ (k : Nat) (xs : List Value), k ≤ n ∧ i = .int .i64 k ∧ wr.ownsRow hB 22 1 v k xs ∧ FitN wr v.ownBlock xs ((trips l).take k) ∧ Below hB W1 wr
set_option maxHeartbeats 4000000 in
set_option maxRecDepth 100000 in
theorem rtriples_any (l : List Nat) (p : Option Addr) (c : Nat) (w : World) (hp : Rd w p (nums l)) (hl : l.length ≤ 17592186044416) :
    Calls Try.prog 10 #[.slice p l.length c] w (TrP w (trL l) (smpE l)) := by
  obtain ⟨i0, hi0, hz0, hz1, hz2⟩ := info_parts info_u64s
  have HC := Lib.hid (rsamples_any l p c w hp hl)
  have HP := Lib.hid hp
  cases ho : okL l with
  | false =>
    have E := Lib.hid (tr_no ho)
    rw [(smp_no ho).1, (smp_no ho).2] at HC
    rw [(smp_no ho).2]
    obtain ⟨n, hn⟩ : ∃ n, n = l.length := ⟨_, rfl⟩
    rw [← hn] at HC ⊢
    clear hn ho hp hl
    go_enter Try.func10, Try.ntmps10
    go_wp2_with fail
    refine HC.out.mono ?_
    rintro e w1 ⟨q, c1, rfl, hc, hr, hb⟩
    have HB := Lib.hid hb
    clear hr hb
    go_wp2_with fail
    refine bodyPost_ret (v := .tuple #[.slice none 0 0, .int .i64 1]) (by simp [results, Try.results10, go_sem]) rfl ?_
    rw [E.out]
    exact tr_mk rfl (Nat.le_refl _) (fun i hi => absurd hi (by simp)) HB.out
  | true =>
    have E := Lib.hid (tr_yes ho)
    have h4 := ok_len ho
    rw [(smp_yes ho).1, (smp_yes ho).2] at HC
    rw [(smp_yes ho).2]
    obtain ⟨n, hn⟩ : ∃ n, n = l.length := ⟨_, rfl⟩
    obtain ⟨m, hm⟩ : ∃ m, m = (places n).length := ⟨_, rfl⟩
    have HPL : Hid (∀ x, x < m → (places n).getD x 0 = pl n x ∧ pl n x ≤ n) := Lib.hid (fun x hx => by
      rw [hm, places_length] at hx
      exact ⟨places_at n x hx, pl_le hx⟩)
    have HML : Hid (m = mm l.length) := Lib.hid (by rw [hm, hn, places_length])
    have HMM : m ≤ 10000 := by rw [hm, places_length]; have := mm_le n; omega
    have HPU : Hid ((up (places n)).length = m) := Lib.hid (by rw [up_length, hm])
    rw [← hn] at HC h4 ⊢
    have HC2 := Lib.hid (pln_of hm.symm HC.out)
    have CT : Hid (∀ W x, Rd W p (nums l) → x ≤ 1000000 → Calls Try.prog 27 #[.slice p n c, .int .i64 (x : Nat)] W (N3 W (triple l x))) := Lib.hid (fun W x h1 h2 =>
      (rtriple_any l p n c x W hn h1 h2).mono fun _ _ ⟨q, c, e, _, h2, h3, h4⟩ => ⟨q, c, e, h2, h3, h4⟩)
    have HTA : Hid (∀ k, k < m → (trips l).take (k + 1) = (trips l).take k ++ [triple l (pl n k)]) := Lib.hid (fun k hk => by
      have h1 : k < (trips l).length := by rw [trips_length, ← HML.out]; exact hk
      have h2 := trips_at l k (by rw [← HML.out]; exact hk)
      rw [← hn] at h2
      rw [List.take_succ_eq_append_getElem h1, ← h2, List.getD_eq_getElem?_getD, List.getElem?_eq_getElem h1]; rfl)
    have HTL : Hid ((trips l).length = m ∧ ∀ L ∈ trips l, L.length ≤ 8) := Lib.hid ⟨by rw [trips_length, HML.out], fun L hL => by
      unfold trips at hL
      obtain ⟨x, _, rfl⟩ := List.mem_map.1 hL
      simp [triple]⟩
    have HN := Lib.hid hn
    clear hn ho hp hl hm HC
    go_enter Try.func10, Try.ntmps10
    go_wp2_with fail
    refine HC2.out.mono ?_
    rintro e w1 ⟨q, c1, rfl, hc, hr, hb⟩
    have HR := Lib.hid hr; have HB := Lib.hid hb
    have P1 := Lib.hid (HP.out.below hb)
    obtain ⟨hB, hhB⟩ : ∃ hB, hB = w1.heap.size := ⟨_, rfl⟩
    have HH := Lib.hid hhB
    clear hr hb hhB
    go_wp2_with fail
    go_loopw [6, 19] (fun v i wr => TrR l hB m w1 v i wr) (fun _ i _ => m - (intOf i).toNat)
    case atStart => exact ⟨0, [], by omega, rfl, World.ownsRow_nil _ _ _ _, FitN.nil _ _, Below.refl _ _⟩
    case round =>
      obtain ⟨k, xs, hk, rfl, ho, hf, hb⟩ := hrel
      have HO := Lib.hid ho; have HF := Lib.hid hf; have HB2 := Lib.hid hb
      have hsz := hb.size
      have P2 : Hid (Rd wr p (nums l)) := Lib.hid (P1.out.below (by rw [← HH.out]; exact hb))
      have R2 : Hid (Rd wr q (zs (up (places n)))) := Lib.hid (HR.out.below (by rw [← HH.out]; exact hb))
      have hsz2 : hB ≤ wr.heap.size := by rw [HH.out]; exact hsz
      clear ho hf hb hsz
      by_cases hlt : k < m
      · obtain ⟨ad, rfl, cx⟩ := rd_z R2.out k (by rw [HPU.out]; exact hlt)
        obtain ⟨x, hx⟩ : ∃ x, x = pl n k := ⟨_, rfl⟩
        have hxe := (HPL.out k hlt).1
        have hxl := (HPL.out k hlt).2
        rw [up_getD _ _ (by have := HPU.out; rw [up_length] at this; omega), hxe, ← hx] at cx
        rw [← hx] at hxl
        have HTK := Lib.hid (HTA.out k hlt)
        rw [← hx] at HTK
        have HCT := Lib.hid (CT.out wr x P2.out (by omega))
        clear hx hxe
        go_wp2_with fail
        refine HCT.out.mono ?_
        rintro e w3 ⟨q3, c3, rfl, hr3, hn3, hb3⟩
        have O3 := Lib.hid (own_below HO.out hb3)
        have F3 : Hid (FitN w3 _ (xs ++ [.slice q3 3 c3]) ((trips l).take (k + 1))) := Lib.hid (by
          rw [HTK.out]
          refine FitN.snoc (HF.out.below hb3) ⟨q3, c3, rfl, hr3⟩ (fun a l c e => ?_)
          cases e
          have h1 := hn3 a rfl
          obtain ⟨a', e', hl'⟩ := hr3.form (by simp [nums, triple])
          cases e'
          refine ⟨fun e2 => ?_, hl'⟩
          have := (HO.out.lt _ e2).2
          omega)
        have B3 : Hid (Below hB w1 w3) := Lib.hid (HB2.out.trans (hb3.mono hsz2))
        have hsz3 : hB ≤ w3.heap.size := by have := hb3.size; omega
        have hk3 : k ≤ 1000000000 := by omega
        clear hr3 hb3 hn3
        go_wp2_with (at_builtin; refine Rw.push rfl _ _ 28 rfl hB 22 i0 (.slice none 0 0) 1 24 Try.underlying28 hi0 hz0 hz1 hz2 rfl (by decide) _ _ _ rfl O3.out [.slice q3 3 c3] rfl rfl rfl hk3 (by omega) hsz3 ?_)
        intro g4 cap4 w4 hown4 hgr4 hnw _ hgr
        have H3 := Lib.hid hown4
        have H4 := Lib.hid (B3.out.trans hgr)
        have F4 : Hid (FitN w4 (some g4) (xs ++ [.slice q3 3 c3]) ((trips l).take (k + 1))) := Lib.hid (F3.out.grown hgr4 hnw)
        clear hown4 hgr hgr4 hnw
        go_wp2_with fail
        go_roundw
        case rel => exact ⟨k + 1, _, by omega, by go_num, H3.out, F4.out, H4.out⟩
        case measure => simp [intOf]; omega
      · obtain rfl : k = m := by omega
        have hf2 := HF.out
        rw [List.take_of_length_le (by rw [HTL.out.1]; exact Nat.le_refl _)] at hf2
        obtain ⟨q5, c5, rfl, hc5, _, _⟩ := own_rdN HO.out
        have HRA : Hid (RecsAt wr q5 (trips l)) := Lib.hid (recsAt_fit (Below.refl _ _) HO.out hf2.1 HTL.out.2)
        have B9 : Hid (Below w.heap.size w wr) := Lib.hid (HB.out.trans (HB2.out.mono (by rw [HH.out]; exact HB.out.size)))
        clear hf2
        go_wp2_with fail
        refine bodyPost_ret (v := .tuple #[.slice q5 k c5, .int .i64 0]) (by simp [results, Try.results10, go_sem]) rfl ?_
        rw [E.out]
        exact tr_mk HTL.out.1 hc5 HRA.out B9.out
end Go.Proofs.Ytonlbcibfbbpgaa.Sk
