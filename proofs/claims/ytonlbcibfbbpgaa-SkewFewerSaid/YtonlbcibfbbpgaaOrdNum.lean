/- The walk of the document's Numbers. The walk of the document's Inverse. The walk of the document's Right. -/
import Derived.Test.YtonlbcibfbbpgaaOrdI
import Derived.Test.YtonlbcibfbbpgaaLsWalkA
import Derived.Lib.Hide
import Derived.IntWalk
import Derived.Test.YtonlbcibfbbpgaaArr
namespace Go.Proofs.Ytonlbcibfbbpgaa.Od
open Go.RowKit Go.Lib Rw Nm Ls

/-- a text's bytes, as numbers -/
def bsN (s : ByteArray) : List Nat := s.data.toList.map UInt8.toNat
theorem bsN_length (s : ByteArray) : (bsN s).length = s.size := by simp [bsN]
theorem bsN_at (s : ByteArray) (k : Nat) (h : k < s.size) : (bsN s)[k]'(by rw [bsN_length]; exact h) = (s[k]'h).toNat := by simp [bsN]; rfl
theorem bsN_take (s : ByteArray) (k : Nat) (h : k < s.size) : (bsN s).take (k + 1) = (bsN s).take k ++ [(s[k]'h).toNat] := by
  rw [List.take_succ_eq_append_getElem (by rw [bsN_length]; exact h), bsN_at s k h]
/-- an answer that is a row of numbers in new memory -/
def NumsP (w : World) (L : List Nat) (e : Ending) (w' : World) : Prop := ∃ (q : Option Addr) (c : Nat), e = .returned (.slice q L.length c) ∧ L.length ≤ c ∧ Rd w' q (nums L) ∧ NewAt w.heap.size q ∧ Below w.heap.size w w'
theorem own_rdN {w : World} {B : Nat} {e : TypeId} {s : Nat} {v : Value} {n : Nat} {xs : List Value} (h : w.ownsRow B e s v n xs) : ∃ (q : Option Addr) (c : Nat), v = .slice q n c ∧ n ≤ c ∧ Rd w q xs ∧ NewAt B q := by
  rcases h.2 with ⟨rfl, h0⟩ | ⟨g, cap, cur, rfl, hb, hh, hc, r⟩
  · have hn : n = 0 := by first | exact h0 | (have := h.1; omega)
    subst hn
    refine ⟨none, 0, rfl, Nat.le_refl _, ?_, fun a e => by cases e⟩
    have : xs = [] := List.eq_nil_of_length_eq_zero (by have := h.1; omega)
    rw [this]; exact Rd.nil _ _
  · exact ⟨_, _, rfl, hc, Rd.of_own h, fun a e => by cases e; exact hb⟩
end Go.Proofs.Ytonlbcibfbbpgaa.Od
namespace Go.Proofs.Ytonlbcibfbbpgaa.Od
open Go.RowKit Go.Lib Rw Nm Ls

theorem info_bool : (Try.prog.info? 4).map (fun i => (i.zero, i.size, i.bytes)) = some (some (.bool false), 1, 1) := by kernel_rfl
def invL (L : List Int) : List Nat := (inv L).getD []
def invE (L : List Int) : Int := if (inv L).isSome then 0 else 2
/-- cells that may be written -/
def Fz (w : World) (q : Option Addr) (n : Nat) : Prop := ∀ a, q = some a → ∀ i, i < n → w.frozen? (a.add i) = false
theorem Fz.zero (w : World) (q : Option Addr) : Fz w q 0 := fun _ _ i h => absurd h (by omega)
theorem Fz.of_own {w : World} {B : Nat} {e : TypeId} {g n cap : Nat} {xs : List Value} (h : w.ownsRow B e 1 (.slice (some ⟨g, 0, none⟩) n cap) n xs) (m : Nat) : Fz w (some ⟨g, 0, none⟩) m := fun a e i _ => by
  cases e
  have e1 : ((⟨g, 0, none⟩ : Addr).add i) = ⟨g, i, none⟩ := by simp [Addr.add] <;> omega
  rw [e1]; exact h.frozenAt i
theorem Fz.below {w w' : World} {q : Option Addr} {n : Nat} {xs : List Value} (h : Fz w q n) (hb : Below w.heap.size w w') (hr : Rd w q xs) (hn : n ≤ xs.length) : Fz w' q n := fun a e i hi => by
  obtain ⟨a', e', hl, _⟩ := hr i (by omega)
  have : a' = a := by rw [e] at e'; cases e'; rfl
  subst this
  rw [hb.frozen (by rw [add_block]; exact hl)]; exact h _ e i hi
/-- an answer that is a row of places in new memory, and an error's number -/
def PlacesP (w : World) (L : List Nat) (r : Int) (e : Ending) (w' : World) : Prop := ∃ (q : Option Addr) (c : Nat), e = .returned (.tuple #[.slice q L.length c, .int .i64 r]) ∧ L.length ≤ c ∧ Rd w' q (zs (up L)) ∧ NewAt w.heap.size q ∧ Fz w' q L.length ∧ Below w.heap.size w w'
theorem zs_zeros (n : Nat) : List.replicate n (Value.int .i64 0) = zs (up (List.replicate n 0)) := by simp [zs, up]
theorem inv_no {L : List Int} (h : inv L = none) : invL L = [] ∧ invE L = 2 := by unfold invL invE; rw [h]; exact ⟨rfl, rfl⟩
theorem inv_yes {L : List Int} {M : List Nat} (h : inv L = some M) : invL L = M ∧ invE L = 0 := by unfold invL invE; rw [h]; exact ⟨rfl, rfl⟩
theorem places_no {w w' : World} {L : List Nat} {r : Int} (h : L = []) (hb : Below w.heap.size w w') : PlacesP w L r (.returned (.tuple #[.slice none 0 0, .int .i64 r])) w' := by
  subst h
  exact ⟨none, 0, rfl, Nat.le_refl _, Rd.nil _ _, fun a e => (by cases e), Fz.zero _ _, hb⟩
set_option maxHeartbeats 8000000 in
set_option maxRecDepth 100000 in
theorem rinverse_any (L : List Int) (p : Option Addr) (c : Nat) (w : World) (hr : Rd w p (zs L)) (hl : L.length ≤ 17592186044416) :
    Calls Try.prog 53 #[.slice p L.length c] w (PlacesP w (invL L) (invE L)) := by
  obtain ⟨i0, hi0, hz0, hz1, hz2⟩ := info_parts info_int
  obtain ⟨i1, hi1, hy0, hy1, hy2⟩ := info_parts info_bool
  obtain ⟨n, hn⟩ : ∃ n, n = L.length := ⟨_, rfl⟩
  have HR := Lib.hid hr
  rw [← hn] at hl ⊢
  have HN := Lib.hid hn
  have HI : Hid (invGo n (L.drop 0) 0 (List.replicate n 0) (List.replicate n false) = inv L) := Lib.hid (by rw [hn]; rfl)
  clear hr hn
  go_enter Try.func53, Try.ntmps53
  go_wp2_with (at_make; refine wpList_make_full _ rfl _ _ 24 rfl w.heap.size 3 i0 (.int .i64 0) 1 Try.underlying24 hi0 hz0 hz1 .i64 .i64 ↑n ↑n n rfl rfl rfl rfl ?c1 ?c2 ?c3 ?_)
  case c1 => rw [hz2]; omega
  case c2 => unfold maxLen; omega
  case c3 => simp
  intro w1 hown1 hgr1
  have b1 : Below w.heap.size w w1 := (Below.refl _ w).grown hgr1 (Nat.le_refl _) (by simp)
  rw [toList_madeCells_one] at hown1
  have B1 := Lib.hid b1
  have A1 : Hid (Arr w1 w.heap.size 3 w.heap.size n (List.replicate n (.int .i64 0))) := Lib.hid hown1
  have l1 : w.heap.size < w1.heap.size := (A1.out.lt).2
  clear b1 hown1 hgr1
  go_wp2_with (at_make; refine wpList_make_full _ rfl _ _ 40 rfl w.heap.size 4 i1 (.bool false) 1 Try.underlying40 hi1 hy0 hy1 .i64 .i64 ↑n ↑n n rfl rfl rfl rfl ?c4 ?c5 ?c6 ?_)
  case c4 => rw [hy2]; omega
  case c5 => unfold maxLen; omega
  case c6 => omega
  intro w2 hown2 hgr2
  have b2 : Below w1.heap.size w1 w2 := (Below.refl _ w1).grown hgr2 (Nat.le_refl _) (by simp)
  rw [toList_madeCells_one] at hown2
  have A2 : Hid (Arr w2 w.heap.size 4 w1.heap.size n (bls (List.replicate n false))) := Lib.hid (by rw [← bls_zeros]; exact hown2)
  have A1b : Hid (Arr w2 w.heap.size 3 w.heap.size n (zs (up (List.replicate n 0)))) := Lib.hid (by rw [← zs_zeros]; exact A1.out.below b2)
  have B2 : Hid (Below w.heap.size w w2) := Lib.hid (B1.out.trans (b2.mono (Nat.le_of_lt l1)))
  obtain ⟨g0, hg0⟩ : ∃ g0, g0 = w.heap.size := ⟨_, rfl⟩
  obtain ⟨g1, hg1⟩ : ∃ g1, g1 = w1.heap.size := ⟨_, rfl⟩
  rw [← hg1] at A2 l1 ⊢
  rw [← hg0] at l1 ⊢
  rw [← hg0] at A2 A1b
  have HG0 := Lib.hid hg0
  clear b2 hown2 hgr2 A1 hg0 hg1
  have ne01 : ¬ (g0 = g1) := by omega
  have ne10 : ¬ (g1 = g0) := by omega
  go_wp2_with fail
  go_loopw [16] (fun i wr => ∃ (k : Nat) (out : List Nat) (had : List Bool), k ≤ n ∧ i = .int .i64 k ∧ invGo n (L.drop k) k out had = inv L ∧ Arr wr g0 3 g0 n (zs (up out)) ∧ Arr wr g0 4 g1 n (bls had) ∧ Below w.heap.size w wr) (fun i _ => n - (intOf i).toNat)
  case atStart => exact ⟨0, _, _, by omega, rfl, HI.out, A1b.out, A2.out, B2.out⟩
  case round =>
    obtain ⟨k, out, had, hk, rfl, hv, ha, hh, hb⟩ := hrel
    by_cases hlt : k < n
    · have hkL : k < L.length := by rw [← HN.out]; exact hlt
      obtain ⟨ad, rfl, cx⟩ := rd_z (HR.out.below hb) k hkL
      obtain ⟨X, hX⟩ : ∃ X, X = L.getD k 0 := ⟨_, rfl⟩
      rw [← hX] at cx
      have hst : invGo n (L.drop k) k out had = if X < 0 ∨ (n : Int) ≤ X ∨ had.getD X.toNat false = true then none else invGo n (L.drop (k + 1)) (k + 1) (out.set X.toNat k) (had.set X.toNat true) := by
        rw [List.drop_eq_getElem_cons hkL, hX]
        simp only [invGo, List.getD_eq_getElem?_getD, List.getElem?_eq_getElem hkL, Option.getD_some]
      rw [hv] at hst
      have k0 : (0 : Int) ≤ (k : Int) := by omega
      have k1 : (k : Int) < (n : Int) := by omega
      have HB := Lib.hid hb; have HST := Lib.hid hst; have HA := Lib.hid ha; have HH := Lib.hid hh
      clear hX hv hst hb ha hh
      by_cases h1 : X < 0
      · have t1 : decide (X < 0) = true := decide_eq_true h1
        have E := Lib.hid (inv_no (by have := HST.out; rwa [if_pos (.inl h1)] at this))
        rw [E.out.2]
        clear h1
        go_wp2_with fail
        refine bodyPost_ret (v := .tuple #[.slice none 0 0, .int .i64 2]) (by simp [results, Try.results53, go_sem]) rfl ?_
        exact places_no E.out.1 HB.out
      by_cases h2 : (n : Int) ≤ X
      · have t1 : decide (X < 0) = false := decide_eq_false h1
        have t2 : decide ((n : Int) ≤ X) = true := decide_eq_true h2
        have E := Lib.hid (inv_no (by have := HST.out; rwa [if_pos (.inr (.inl h2))] at this))
        rw [E.out.2]
        clear h1 h2
        go_wp2_with fail
        refine bodyPost_ret (v := .tuple #[.slice none 0 0, .int .i64 2]) (by simp [results, Try.results53, go_sem]) rfl ?_
        exact places_no E.out.1 HB.out
      obtain ⟨x, rfl⟩ : ∃ x : Nat, X = (x : Int) := ⟨X.toNat, by omega⟩
      have hxn : x < n := by omega
      have t1 : decide ((x : Int) < 0) = false := decide_eq_false h1
      have t2 : decide (n ≤ x) = false := decide_eq_false (by omega)
      have t3 : decide ((n : Int) ≤ (x : Int)) = false := decide_eq_false h2
      have x0 : (0 : Int) ≤ (x : Int) := by omega
      have x1 : (x : Int) < (n : Int) := by omega
      have ch := HH.out.cell hxn
      have fh := HH.out.free x
      rw [bls_getD] at ch
      cases hd : had.getD x false with
      | true =>
        rw [hd] at ch
        have E := Lib.hid (inv_no (by have := HST.out; rwa [if_pos (.inr (.inr (by rw [Int.toNat_natCast]; exact hd)))] at this))
        rw [E.out.2]
        clear h1 h2 hd
        go_wp2_with fail
        refine bodyPost_ret (v := .tuple #[.slice none 0 0, .int .i64 2]) (by simp [results, Try.results53, go_sem]) rfl ?_
        exact places_no E.out.1 HB.out
      | false =>
        rw [hd] at ch
        have E : Hid (invGo n (L.drop (k + 1)) (k + 1) (out.set x k) (had.set x true) = inv L) := Lib.hid (by
          have := HST.out
          rw [Int.toNat_natCast, hd, if_neg (by rintro (h | h | h) <;> first | omega | cases h)] at this
          exact this.symm)
        have S1 := HH.out.set x (.bool true)
        rw [bls_set] at S1
        have S2 := (HA.out.other (a := ⟨g1, x, none⟩) ne10 (.bool true)).set x (.int .i64 (k : Nat))
        rw [zs_set, up_set] at S2
        have S3 := S1.other (a := ⟨g0, x, none⟩) ne01 (.int .i64 (k : Nat))
        have S4 := below_put (below_put HB.out (a := ⟨g1, x, none⟩) (by rw [← HG0.out]; exact HH.out.lt.1) (.bool true)) (a := ⟨g0, x, none⟩) (by rw [← HG0.out]; exact HA.out.lt.1) (.int .i64 (k : Nat))
        have fa := HA.out.free x
        have ca := HA.out.cell hxn
        obtain ⟨ov, hov⟩ : ∃ ov, ov = (zs (up out)).getD x (.bool false) := ⟨_, rfl⟩
        rw [← hov] at ca
        have P2 := Lib.hid S2; have P3 := Lib.hid S3; have P4 := Lib.hid S4
        clear h1 h2 hd S1 S2 S3 S4 hov
        go_wp2_with fail
        go_roundw
        case rel => exact ⟨k + 1, _, _, by omega, by go_num, E.out, P2.out, P3.out, P4.out⟩
        case measure => simp [intOf]; omega
    · obtain rfl : k = n := by omega
      have hv2 : inv L = some out := by
        rw [← hv, List.drop_eq_nil_of_le (by rw [← HN.out]; exact Nat.le_refl _)]; rfl
      have E := Lib.hid (inv_yes hv2)
      have hol : out.length = k := by have := ha.len; rwa [zs_length, up_length] at this
      have HA := Lib.hid ha; have HB := Lib.hid hb; have HOL := Lib.hid hol
      clear hv hv2 ha hh hb hol
      go_wp2_with fail
      refine bodyPost_ret (v := .tuple #[.slice (some ⟨g0, 0, none⟩) k k, .int .i64 0]) (by simp [results, Try.results53, go_sem]) rfl ?_
      rw [E.out.1, E.out.2]
      exact ⟨some ⟨g0, 0, none⟩, k, (by rw [HOL.out] : Ending.returned (.tuple #[.slice (some ⟨g0, 0, none⟩) k k, .int .i64 0]) = Ending.returned (.tuple #[.slice (some ⟨g0, 0, none⟩) out.length k, .int .i64 0])), by rw [HOL.out]; exact Nat.le_refl _, HA.out.rd, fun a e => by cases e; rw [← HG0.out]; exact HA.out.lt.1, Fz.of_own HA.out _, HB.out⟩
end Go.Proofs.Ytonlbcibfbbpgaa.Od
namespace Go.Proofs.Ytonlbcibfbbpgaa.Od
open Go.RowKit Go.Lib Rw Nm Ls

theorem less_ends (l : List Nat) (ad : Addr) (n c x y : Nat) (w : World) (hn : n = l.length) (hr : Rd w (some ad) (nums l)) (hl : n ≤ 17592186044416) (hx : x < n) (hy : y < n) :
    ∀ z, Calls Try.prog 29 #[.slice (some (ad.add x)) (n - x) (c - x), .slice (some (ad.add y)) (n - y) (c - y)] (w.drewN z) fun e w' => e = .returned (.bool (lt l x y)) ∧ ∃ m, w' = w.drewN m := fun z => by
  have h1 := hr.cut x (by rw [nums_length]; omega)
  have h2 := hr.cut y (by rw [nums_length]; omega)
  have e1 : (nums l).drop x = nums (l.drop x) := by simp [nums, List.map_drop]
  have e2 : (nums l).drop y = nums (l.drop y) := by simp [nums, List.map_drop]
  rw [e1] at h1
  rw [e2] at h2
  have h := rless_any (l.drop x) (l.drop y) _ _ (c - x) (c - y) (w.drewN z) (h1.drewN z) (h2.drewN z) (by rw [List.length_drop]; omega) (by rw [List.length_drop]; omega)
  rw [List.length_drop, List.length_drop, ← hn] at h
  exact quiet_at h
theorem chain_false {l P : List Nat} {k n : Nat} (h0 : 0 < k) (hk : k < n) (hl : lt l (P.getD (k - 1) 0) (P.getD k 0) = false) : chain l P n = false := by
  cases hc : chain l P n with
  | false => rfl
  | true =>
    simp only [chain, List.all_eq_true, List.mem_range, Bool.or_eq_true, decide_eq_true_eq] at hc
    rcases hc k hk with e | e
    · omega
    · rw [hl] at e; cases e
set_option maxHeartbeats 8000000 in
set_option maxRecDepth 100000 in
theorem rright_any (l : List Nat) (E : List Int) (p q : Option Addr) (c d : Nat) (w : World) (hp : Rd w p (nums l)) (hq : Rd w q (zs E)) (hlc : l.length ≤ c) (hl : l.length ≤ 17592186044416) (hE : E.length ≤ 17592186044416) :
    Calls Try.prog 36 #[.slice p l.length c, .slice q E.length d] w fun e w' => e = .returned (.bool (right l E)) ∧ Below w.heap.size w w' := by
  have HP := Lib.hid hp; have HQ := Lib.hid hq
  have HC := Lib.hid (rinverse_any E q d w hq hE)
  obtain ⟨n, hn⟩ : ∃ n, n = l.length := ⟨_, rfl⟩
  obtain ⟨m, hm⟩ : ∃ m, m = E.length := ⟨_, rfl⟩
  rw [← hm] at HC
  rw [← hn, ← hm]
  rw [← hn] at hl hlc
  rw [← hm] at hE
  have HN := Lib.hid hn; have HM := Lib.hid hm
  clear hp hq hn hm
  cases hi : inv E with
  | none =>
    have F : Hid (false = right l E) := Lib.hid (by unfold right; rw [hi]; rfl)
    obtain ⟨e1, e2⟩ := inv_no hi
    rw [e1, e2] at HC
    clear e1 e2 hi
    go_enter Try.func36, Try.ntmps36
    go_wp2_with fail
    refine HC.out.mono ?_
    rintro e w1 ⟨q', c', rfl, hc', hr', hn', _, hb'⟩
    have B1 := Lib.hid hb'
    clear hc' hr' hn' hb'
    go_wp2_with fail
    go_ret
    exact ⟨ret_bool F.out, B1.out⟩
  | some M =>
    obtain ⟨P, rfl, hperm⟩ := perm_of_inv hi
    obtain ⟨e1, e2⟩ := inv_yes hi
    rw [e1, e2] at HC
    have HPm := Lib.hid hperm
    have HI := Lib.hid hi
    clear e1 e2 hi hperm
    by_cases hmn : m = n
    case neg =>
      have F : Hid (false = right l (up P)) := Lib.hid (by
        unfold right
        rw [decide_eq_false (by rw [← HM.out, ← HN.out]; exact hmn)]; simp)
      have t : ((m : Int) != (n : Int)) = true := by rw [bne_iff_ne]; omega
      clear hmn
      go_enter Try.func36, Try.ntmps36
      go_wp2_with fail
      refine HC.out.mono ?_
      rintro e w1 ⟨q', c', rfl, hc', hr', hn', _, hb'⟩
      have B1 := Lib.hid hb'
      clear hc' hr' hn' hb'
      go_wp2_with fail
      go_ret
      exact ⟨ret_bool F.out, B1.out⟩
    subst hmn
    have G : Hid (right l (up P) = chain l P m) := Lib.hid (by
      unfold right
      rw [decide_eq_true (by rw [← HM.out, ← HN.out]), HI.out, nat_up, ← HM.out]; rfl)
    have hPl : m = P.length := by rw [HM.out, up_length]
    have HPl := Lib.hid hPl
    clear hPl
    go_enter Try.func36, Try.ntmps36
    go_wp2_with fail
    refine HC.out.mono ?_
    rintro e w1 ⟨q', c', rfl, hc', hr', hn', _, hb'⟩
    have B1 := Lib.hid hb'
    have P1 := Lib.hid (HP.out.below hb')
    have Q1 := Lib.hid (HQ.out.below hb')
    clear hc' hr' hn' hb'
    go_wp2_with fail
    go_loopw [24] (fun i wr => ∃ k j : Nat, k ≤ m ∧ i = .int .i64 k ∧ chain l P k = true ∧ wr = w1.drewN j) (fun i _ => m - (intOf i).toNat)
    case atStart => exact ⟨0, 0, by omega, rfl, rfl, rfl⟩
    case round =>
      obtain ⟨k, j, hk, rfl, hch, hw⟩ := hrel
      have B2 : Hid (∀ z, Below w.heap.size w (wr.drewN z)) := Lib.hid (fun z => by rw [hw]; exact below_drewN (below_drewN B1.out j) z)
      have HW := Lib.hid hw
      have P2 : Hid (Rd wr p (nums l)) := Lib.hid (by rw [hw]; exact P1.out.drewN j)
      have Q2 : Hid (Rd wr q (zs (up P))) := Lib.hid (by rw [hw]; exact Q1.out.drewN j)
      have HCH := Lib.hid hch
      clear hw hch
      by_cases hlt : k < m
      · by_cases h0 : k = 0
        · subst h0
          have HCH2 : Hid (chain l P 1 = true) := Lib.hid rfl
          go_wp2_with fail
          go_quiet (fail)
          go_wp2_with fail
          go_roundw
          case rel => exact ⟨1, _, by omega, by go_num, HCH2.out, by rw [HW.out, World.drewN_drewN]⟩
          case measure => simp [intOf]; omega
        · have kP : k < P.length := by rw [← HPl.out]; exact hlt
          obtain ⟨x, hx⟩ : ∃ x, x = P.getD (k - 1) 0 := ⟨_, rfl⟩
          obtain ⟨y, hy⟩ : ∃ y, y = P.getD k 0 := ⟨_, rfl⟩
          have bd : ∀ i, i < P.length → P.getD i 0 < m := fun i hi => by
            rw [HPl.out, gd hi]
            exact List.mem_range.1 (HPm.out.mem_iff.1 (List.getElem_mem _))
          have hxm : x < m := by rw [hx]; exact bd _ (by omega)
          have hym : y < m := by rw [hy]; exact bd _ kP
          obtain ⟨b, rfl, cx⟩ := rd_z Q2.out (k - 1) (by rw [up_length]; omega)
          obtain ⟨b', hbb, cy⟩ := rd_z Q2.out k (by rw [up_length]; omega)
          cases hbb
          rw [up_getD _ _ (by omega), ← hx] at cx
          rw [up_getD _ _ kP, ← hy] at cy
          obtain ⟨ad, rfl, _⟩ := P2.out.form (by rw [nums_length, ← HN.out]; omega)
          have LE := less_ends l ad m c x y wr HN.out P2.out hl hxm hym
          have HST : Hid (chain l P (k + 1) = lt l x y) := Lib.hid (by rw [chain_succ, HCH.out, decide_eq_false h0, hx, hy]; rfl)
          have HFL : Hid (lt l x y = false → chain l P m = false) := Lib.hid (fun h => chain_false (by omega) hlt (by rw [← hx, ← hy]; exact h))
          obtain ⟨t, ht⟩ : ∃ t, t = lt l x y := ⟨_, rfl⟩
          rw [← ht] at LE HST HFL
          have HLE := Lib.hid LE
          have k0 : (0 : Int) < (k : Int) := by omega
          have tk : decide ((0 : Int) < (k : Int)) = true := decide_eq_true k0
          have tk2 : decide (0 < k) = true := decide_eq_true (by omega)
          have e1 : ((k : Int) - 1).toNat = k - 1 := by omega
          have k1 : (0 : Int) ≤ (k : Int) - 1 := by omega
          have k2 : (k : Int) - 1 < (m : Int) := by omega
          have k3 : (k : Int) < (m : Int) := by omega
          have x0 : (0 : Int) ≤ (x : Int) := by omega
          have y0 : (0 : Int) ≤ (y : Int) := by omega
          have x1 : (x : Int) ≤ (m : Int) := by omega
          have y1 : (y : Int) ≤ (m : Int) := by omega
          have cx1 : ¬ (c = x) := by omega
          have cy1 : ¬ (c = y) := by omega
          clear hx hy bd ht LE kP h0
          cases t with
          | true =>
            go_wp2_with fail
            go_quiet ((go_at_call 29; exact HLE.out _))
            go_wp2_with fail
            go_roundw
            case rel => exact ⟨k + 1, _, by omega, by go_num, HST.out, by rw [HW.out, World.drewN_drewN]⟩
            case measure => simp [intOf]; omega
          | false =>
            have F : Hid (false = right l (up P)) := Lib.hid (by rw [G.out]; exact (HFL.out rfl).symm)
            go_wp2_with fail
            go_quiet ((go_at_call 29; exact HLE.out _))
            go_wp2_with fail
            go_ret
            exact ⟨ret_bool F.out, B2.out _⟩
      · obtain rfl : k = m := by omega
        have F : Hid (true = right l (up P)) := Lib.hid (by rw [G.out]; exact HCH.out.symm)
        have B3 : Hid (Below w.heap.size w wr) := Lib.hid (by have := B2.out 0; exact this)
        go_wp2_with fail
        go_ret
        exact ⟨ret_bool F.out, B3.out⟩
end Go.Proofs.Ytonlbcibfbbpgaa.Od
