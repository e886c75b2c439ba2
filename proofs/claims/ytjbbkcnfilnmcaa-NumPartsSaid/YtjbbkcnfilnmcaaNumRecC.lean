/- The walk of Split. -/
import Derived.Test.YtjbbkcnfilnmcaaNumRecB
namespace Go.Proofs.Ytjbbkcnfilnmcaa.Nm
open Go.RowKit Rw

theorem own_type {w : World} {B B' : Nat} {e e' : TypeId} {s s' : Nat} {v v' : Value} {n n' : Nat} {xs xs' : List Value} (h : w.ownsRow B e s v n xs) (h' : w.ownsRow B' e' s' v' n' xs') (hne : e ≠ e') : v.ownBlock = none ∨ v.ownBlock ≠ v'.ownBlock := by
  rcases h.2 with ⟨rfl, _⟩ | ⟨g, cap, cur, rfl, _, hh, _⟩
  · exact .inl rfl
  · right
    intro he
    rcases h'.2 with ⟨rfl, _⟩ | ⟨g', cap', cur', rfl, _, hh', _⟩
    · simp [Value.ownBlock] at he
    · have e2 : g = g' := by simpa [Value.ownBlock] using he
      subst e2
      rw [hh] at hh'
      injection hh' with hh'
      injection hh' with _ ht
      exact hne ht
/-- rows of numbers, each of the call's own -/
def Fit (w : World) : List Value → List (List Nat) → Prop
  | [], [] => True
  | x :: xs, L :: M => (∃ B, w.ownsRow B 34 1 x L.length (nums L)) ∧ Fit w xs M
  | _, _ => False
theorem Fit.below {w w' : World} (hb : Below w.heap.size w w') : ∀ {xs : List Value} {M : List (List Nat)}, Fit w xs M → Fit w' xs M
  | [], [], _ => trivial
  | _ :: _, _ :: _, ⟨⟨B, h⟩, r⟩ => ⟨⟨B, own_below h hb⟩, Fit.below hb r⟩
  | [], _ :: _, h => h.elim
  | _ :: _, [], h => h.elim
theorem Fit.grown {w w' : World} {B : Nat} {v : Value} {n : Nat} {ys : List Value} (ho : w.ownsRow B 42 1 v n ys) (hg : w.grownBy w' v.ownBlock) : ∀ {xs : List Value} {M : List (List Nat)}, Fit w xs M → Fit w' xs M
  | [], [], _ => trivial
  | _ :: _, _ :: _, ⟨⟨C, h⟩, r⟩ => ⟨⟨C, h.kept hg (own_type h ho (by decide))⟩, Fit.grown ho hg r⟩
  | [], _ :: _, h => h.elim
  | _ :: _, [], h => h.elim
theorem Fit.snoc {w : World} {x : Value} {L : List Nat} (hx : ∃ B, w.ownsRow B 34 1 x L.length (nums L)) : ∀ {xs : List Value} {M : List (List Nat)}, Fit w xs M → Fit w (xs ++ [x]) (M ++ [L])
  | [], [], _ => ⟨hx, trivial⟩
  | _ :: _, _ :: _, ⟨h, r⟩ => ⟨h, Fit.snoc hx r⟩
  | [], _ :: _, h => h.elim
  | _ :: _, [], h => h.elim
theorem Fit.length {w : World} : ∀ {xs : List Value} {M : List (List Nat)}, Fit w xs M → xs.length = M.length
  | [], [], _ => rfl
  | _ :: _, _ :: _, ⟨_, r⟩ => by simp [Fit.length r]
  | [], _ :: _, h => h.elim
  | _ :: _, [], h => h.elim
theorem Fit.at {w : World} : ∀ {xs : List Value} {M : List (List Nat)}, Fit w xs M → ∀ i, i < M.length → ∃ B, w.ownsRow B 34 1 (xs.getD i (.bool false)) (M.getD i []).length (nums (M.getD i []))
  | [], [], _, i, hi => absurd hi (by simp)
  | x :: xs, L :: M, ⟨h, r⟩, 0, _ => by simpa using h
  | x :: xs, L :: M, ⟨h, r⟩, i + 1, hi => by simpa using Fit.at r i (by simpa using hi)
  | [], _ :: _, h, _, _ => h.elim
  | _ :: _, [], h, _, _ => h.elim
theorem own_slice {w : World} {B : Nat} {e : TypeId} {v : Value} {n : Nat} {xs : List Value} (h : w.ownsRow B e 1 v n xs) : ∃ A cap, v = .slice A n cap := by
  rcases h.2 with ⟨rfl, rfl⟩ | ⟨g, cap, cur, rfl, _⟩
  · exact ⟨_, _, rfl⟩
  · exact ⟨_, _, rfl⟩
theorem recsAt_of {w : World} {B : Nat} {A : Option Addr} {n cap : Nat} {xs : List Value} {M : List (List Nat)} (h : w.ownsRow B 42 1 (.slice A n cap) n xs) (hf : Fit w xs M) (hm : ∀ L ∈ M, L.length ≤ 8) : RecsAt w A M := by
  intro i hi
  obtain ⟨a, e, hl, hc⟩ := (Rd.of_own h) i (by rw [hf.length]; exact hi)
  obtain ⟨C, ho⟩ := hf.at i hi
  obtain ⟨q, c, hv⟩ := own_slice ho
  rw [hv] at hc ho
  refine ⟨a, q, c, e, hl, hc, Rd.of_own ho, ?_⟩
  have h8 : (M.getD i []).length ≤ 8 := hm _ (by rw [List.getD_eq_getElem?_getD, List.getElem?_eq_getElem hi]; exact List.getElem_mem hi)
  omega

/-- the first k records of some bytes -/
def recsN (l : List UInt8) (n k : Nat) : List (List Nat) := (List.range k).map fun i => recL (l.drop (5 * n * i)) n
theorem recsN_length (l : List UInt8) (n k : Nat) : (recsN l n k).length = k := by simp [recsN]
theorem recsN_snoc (l : List UInt8) (n k : Nat) : recsN l n (k + 1) = recsN l n k ++ [recL (l.drop (5 * n * k)) n] := by simp [recsN, List.range_succ]
theorem recsN_len (l : List UInt8) (n k : Nat) (h : n ≤ 8) : ∀ L ∈ recsN l n k, L.length ≤ 8 := by
  intro L hL
  simp only [recsN, List.mem_map] at hL
  obtain ⟨i, _, rfl⟩ := hL
  rw [recL_length]; exact h
theorem recL_take (l : List UInt8) (n : Nat) : recL (l.take (5 * n)) n = recL l n := by
  unfold recL
  apply List.map_congr_left
  intro k hk
  rw [List.mem_range] at hk
  rw [List.drop_take, List.take_take, Nat.min_eq_left (by omega)]
def spE (l : List UInt8) (w : Int) : Int := if w < 1 ∨ 8 < w then 1 else if l.length % (5 * w.toNat) ≠ 0 then 5 else 0
def spM (l : List UInt8) (w : Int) : List (List Nat) := if spE l w = 0 then recsN l w.toNat (l.length / (5 * w.toNat)) else []
theorem sp_bad {l : List UInt8} {w E : Int} (h : spE l w = E) (h0 : E ≠ 0) : spM l w = [] ∧ E = spE l w := ⟨by unfold spM; rw [if_neg (by rw [h]; exact h0)], h.symm⟩

theorem Row_kept {w w' : World} {g : Nat} {l : List UInt8} {row : Option Nat} (h : Row.Bytes w g l) (hg : w.grownBy w' row) (hne : some g ≠ row) : Row.Bytes w' g l :=
  ⟨Nat.lt_of_lt_of_le h.lt hg.size, fun j hj => by rw [World.cell?_of_block (hg.block g h.lt hne)]; exact h.cell j hj, fun j hj => by rw [World.frozen?_of_block (hg.block g h.lt hne)]; exact h.free j hj⟩
theorem rd_of_bytes {w : World} {g : Nat} {l : List UInt8} (h : Row.Bytes w g l) (o n : Nat) : Rd w (some ⟨g, o, none⟩) (Lib.byteCells ((l.drop o).take n)) := fun i hi => by
  rw [bcells_length, List.length_take, List.length_drop] at hi
  refine ⟨_, rfl, h.lt, ?_⟩
  have e1 : ((⟨g, o, none⟩ : Addr).add i) = ⟨g, o + i, none⟩ := by simp [Addr.add] <;> omega
  rw [e1, h.cell (o + i) (by omega), bcells_getD _ _ (by rw [List.length_take, List.length_drop]; omega)]
  simp only [List.getD_eq_getElem?_getD, List.getElem?_take, List.getElem?_drop, if_pos (show i < n by omega)]
theorem ret_slice {A : Option Addr} {n m c : Nat} {a b : Int} (h : n = m) (k : a = b) : Ending.returned (.tuple #[.slice A n c, .int .i64 a]) = .returned (.tuple #[.slice A m c, .int .i64 b]) := by rw [h, k]
/-- what Split leaves -/
def SplitPost (w : World) (M : List (List Nat)) (E : Int) (e : Ending) (w' : World) : Prop := ∃ A cap, e = .returned (.tuple #[.slice A M.length cap, .int .i64 E]) ∧ RecsAt w' A M ∧ Below w.heap.size w w'
theorem sp_mk {w w' : World} {M : List (List Nat)} {E : Int} {e : Ending} (A : Option Addr) (cap : Nat) (he : e = .returned (.tuple #[.slice A M.length cap, .int .i64 E])) (hr : RecsAt w' A M) (hb : Below w.heap.size w w') : SplitPost w M E e w' := ⟨A, cap, he, hr, hb⟩
theorem recsAt_nil (w : World) : RecsAt w none [] := fun i hi => absurd hi (by simp)

def slen : Value → Nat
  | .slice _ m _ => m
  | _ => 0
theorem numbers_at (A : Option Addr) (c n N : Nat) (hN : N = 5 * n) (L : List UInt8) (hs : L.length = N) (hc : N ≤ c) (h1 : 1 ≤ n) (h8 : n ≤ 8) (w : World) (h : Rd w A (Lib.byteCells L)) :
    Calls Try.prog 53 #[.slice A N c] w fun e w' => ∃ g cap, e = .returned (.slice (some ⟨g, 0, none⟩) n cap) ∧ w'.ownsRow w.heap.size 34 1 (.slice (some ⟨g, 0, none⟩) n cap) n (nums (recL L n)) ∧ Below w.heap.size w w' := by
  subst hN
  exact numbers_any A c n L hs hc h1 h8 w h

set_option maxHeartbeats 4000000 in
set_option maxRecDepth 100000 in
theorem split_any (s : ByteArray) (wd : Int) (w : World) (hs : s.size ≤ 2000000) :
    Calls Try.prog 30 #[.string s, .int .i64 wd] w (SplitPost w (spM s.data.toList wd) (spE s.data.toList wd)) := by
  obtain ⟨i0, hi, hz0, hz1, hz2⟩ := info_parts info_u64s
  by_cases h1 : wd < 1
  · have F := Lib.hid (sp_bad (l := s.data.toList) (w := wd) (E := 1) (if_pos (.inl h1)) (by decide))
    go_enter Try.func30, Try.ntmps30
    go_wp2_with fail
    go_ret2
    exact sp_mk none 0 (ret_slice (by rw [F.out.1]; rfl) F.out.2) (by rw [F.out.1]; exact recsAt_nil _) (Below.refl _ _)
  by_cases h8 : 8 < wd
  · have F := Lib.hid (sp_bad (l := s.data.toList) (w := wd) (E := 1) (if_pos (.inr h8)) (by decide))
    have t : decide (wd < 1) = false := decide_eq_false h1
    go_enter Try.func30, Try.ntmps30
    go_wp2_with fail
    go_ret2
    exact sp_mk none 0 (ret_slice (by rw [F.out.1]; rfl) F.out.2) (by rw [F.out.1]; exact recsAt_nil _) (Below.refl _ _)
  obtain ⟨n, rfl⟩ := Int.eq_ofNat_of_zero_le (show 0 ≤ wd by omega)
  have n1 : 1 ≤ n := by omega
  have n8 : n ≤ 8 := by omega
  have hsp : spE s.data.toList n = if s.size % (5 * n) ≠ 0 then 5 else 0 := by
    unfold spE; rw [if_neg (by omega), Int.toNat_natCast, size_data]
  have HSP := Lib.hid hsp
  clear hsp h1 h8
  obtain ⟨E, hE⟩ : ∃ E, E = 5 * n := ⟨_, rfl⟩
  have e1 : 5 * (n : Int) = (E : Int) := by omega
  have hE0 : 5 ≤ E := by omega
  have hE40 : E ≤ 40 := by omega
  rw [← hE] at HSP
  have r1 : (s.size : Int).tmod (E : Int) = ((s.size % E : Nat) : Int) := by rw [Int.tmod_eq_emod_of_nonneg (by omega)]; simp
  have r2 : (s.size : Int) % (E : Int) = ((s.size % E : Nat) : Int) := by simp
  have z0 : ((E : Int) == 0) = false := by rw [beq_eq_false_iff_ne]; omega
  obtain ⟨r, hr⟩ : ∃ r, r = s.size % E := ⟨_, rfl⟩
  rw [← hr] at r1 r2 HSP
  by_cases hr0 : r = 0
  case neg =>
    have F := Lib.hid (sp_bad (l := s.data.toList) (w := n) (E := 5) (by rw [HSP.out, if_pos hr0]) (by decide))
    have t : ((r : Int) != 0) = true := by rw [bne_iff_ne]; omega
    have HE := Lib.hid hE
    clear hr hr0 hE
    go_enter Try.func30, Try.ntmps30
    go_wp2_with fail
    go_ret2
    exact sp_mk none 0 (ret_slice (by rw [F.out.1]; rfl) F.out.2) (by rw [F.out.1]; exact recsAt_nil _) (Below.refl _ _)
  have t : ((r : Int) != 0) = false := by rw [bne_eq_false_iff_eq]; omega
  obtain ⟨K, hK⟩ : ∃ K, K = s.size / E := ⟨_, rfl⟩
  have hKE : E * K = s.size := by have := Nat.div_add_mod s.size E; rw [← hK, ← hr, hr0] at this; omega
  have q1 : (s.size : Int).tdiv (E : Int) = (K : Int) := by rw [Int.tdiv_eq_ediv_of_nonneg (by omega), hK]; simp
  have q2 : (s.size : Int) / (E : Int) = (K : Int) := by rw [hK]; simp
  have hK9 : K ≤ 2000000 := by rw [hK]; exact Nat.le_trans (Nat.div_le_self _ _) hs
  have wK : IntKind.i64.wrap (K : Int) = (K : Int) := IntWalk.i64_in _ (by omega)
  have F0 : Hid (0 = spE s.data.toList n ∧ recsN s.data.toList n K = spM s.data.toList n) := Lib.hid (by
    have e : spE s.data.toList n = 0 := by rw [HSP.out, if_neg (by rw [hr0]; simp)]
    exact ⟨e.symm, by unfold spM; rw [if_pos e, Int.toNat_natCast, size_data, ← hE, ← hK]⟩)
  have HE := Lib.hid hE; have HKE := Lib.hid hKE
  clear hr hr0 hE hK hKE
  go_enter Try.func30, Try.ntmps30
  go_wp2_with (at_make; refine wpList_make_own _ rfl _ _ 44 rfl w.heap.size 42 i0 (.slice none 0 0) 1 Try.underlying44 hi hz0 hz1 .i64 .i64 (K : Int) K rfl rfl rfl ?c1 ?c2 ?c3 ?_)
  case c1 => rw [hz2]; omega
  case c2 => unfold maxLen; omega
  case c3 => exact Nat.le_refl _
  intro w1 hown hgr
  have hb1 : Below w.heap.size w w1 := (Below.refl _ w).grown hgr (Nat.le_refl _) (by simp)
  have hlt1 : w.heap.size < w1.heap.size := by
    rcases hown.2 with ⟨h0, _⟩ | ⟨g, cp, cur, hv, _, hh, _⟩
    · cases h0
    · cases hv; exact (Array.getElem?_eq_some_iff.1 hh).1
  have hmk := Row.run_make w1 s
  have hby := Row.madeOf_bytes w1 s
  have hbw := Row.madeOf_below w1 s
  have hsz := Row.madeOf_size w1 s
  have hge := grownCap_ge w1 s.size 0 5
  obtain ⟨C, hC⟩ : ∃ C, C = grownCap w1 s.size 0 5 := ⟨_, rfl⟩
  obtain ⟨w2, hw2⟩ : ∃ w2, w2 = Row.madeOf w1 s := ⟨_, rfl⟩
  rw [← hC] at hmk hge
  rw [← hw2] at hmk hby hbw hsz
  have HO := Lib.hid (own_below hown hbw); have HB := Lib.hid (hb1.trans (hbw.mono hb1.size)); have HBY := Lib.hid hby
  obtain ⟨G, hG⟩ : ∃ G, G = w1.heap.size := ⟨_, rfl⟩
  rw [← hG] at HBY hmk hsz hlt1
  have hsz2 : G < w2.heap.size := by omega
  clear hown hgr hb1 hby hbw hC hw2 hG hsz
  go_wp2_with fail
  go_loopw [7, 8] (fun u v wr => ∃ (k m cap : Nat) (A : Option Addr) (xs : List Value), k ≤ K ∧ v = .slice A m cap ∧ m + E * k = s.size ∧ m ≤ cap ∧ (0 < m → A = some ⟨G, E * k, none⟩) ∧ Row.Bytes wr G s.data.toList ∧ wr.ownsRow w.heap.size 42 1 u k xs ∧ u.ownBlock ≠ some G ∧ Fit wr xs (recsN s.data.toList n k) ∧ Below w.heap.size w wr) (fun _ v _ => slen v)
  case atStart => exact ⟨0, s.size, C, _, [], by omega, rfl, by omega, hge, fun _ => rfl, HBY.out, HO.out, by simp [Value.ownBlock]; omega, trivial, HB.out⟩
  case round =>
    obtain ⟨k, m, cap, A, xs, hk, rfl, hm, hmc, hA, hby, hown, hne, hfit, hbl⟩ := hrel
    obtain ⟨j, hj⟩ : ∃ j, j = E * k := ⟨_, rfl⟩
    rw [← hj] at hm hA
    by_cases hlt : 0 < m
    · obtain rfl := hA hlt
      have hkK : k < K := by
        rcases Nat.lt_or_ge k K with h | h
        · exact h
        · have : E * K ≤ E * k := Nat.mul_le_mul_left E h
          have := HKE.out; omega
      have hmE : E ≤ m := by
        have : E * (k + 1) ≤ E * K := Nat.mul_le_mul_left E hkK
        rw [Nat.mul_add] at this
        have := HKE.out; omega
      have hl5 : ((s.data.toList.drop j).take E).length = E := by rw [List.length_take, List.length_drop, size_data]; omega
      have HRD := Lib.hid (rd_of_bytes hby j E)
      have hbB := hbl.size
      have HJ := Lib.hid hj; have HL5 := Lib.hid hl5; have HBY2 := Lib.hid hby; have HO2 := Lib.hid hown; have HNE := Lib.hid hne; have HFIT := Lib.hid hfit; have HBL := Lib.hid hbl; have HM := Lib.hid hm
      have HJ2 : Hid (E * (k + 1) = j + E) := Lib.hid (by rw [Nat.mul_add, ← hj]; omega)
      have l1 : (E : Int) ≤ (m : Int) := by omega
      have l2 : (E : Int) ≤ (cap : Int) := by omega
      have l3 : (0 : Int) ≤ (E : Int) := by omega
      have m0 : (0 : Int) < (m : Int) := by omega
      have hkb : k ≤ 2000000 := by omega
      have hGr : G < wr.heap.size := by have := hby.lt; exact this
      clear hA hj hl5 hby hown hne hfit hbl hm
      go_wp2_with fail
      refine (numbers_at _ _ n E HE.out ((s.data.toList.drop j).take E) HL5.out (by omega) n1 n8 _ HRD.out).mono ?_
      rintro e w3 ⟨g, c2, rfl, hrow, hb3⟩
      have hby3 := HBY2.out.below hb3
      have hfit3 := Fit.below hb3 HFIT.out
      have ho3 := own_below HO2.out hb3
      have hb4 := HBL.out.trans (hb3.mono hbB)
      have hz3 := hb3.size
      rw [HE.out, recL_take] at hrow
      have HROW := Lib.hid hrow; have HBY3 := Lib.hid hby3; have HFIT3 := Lib.hid hfit3; have HO3 := Lib.hid ho3; have HB4 := Lib.hid hb4
      clear hrow hby3 hfit3 ho3 hb4 hb3
      go_wp2_with (at_builtin; refine Rw.push rfl _ _ 44 rfl w.heap.size 42 i0 (.slice none 0 0) 1 24 Try.underlying44 hi hz0 hz1 hz2 rfl (by decide) _ _ _ rfl HO3.out [.slice (some ⟨g, 0, none⟩) n c2] rfl rfl rfl (by omega) (by omega) (by omega) ?_)
      intro g4 cap4 w4 hown4 hgrow hlie _ hgr
      have H1 := Lib.hid (Row_kept HBY3.out hgrow (fun h => HNE.out h.symm))
      have H2 := Lib.hid (Fit.snoc ⟨_, by rw [recL_length]; exact HROW.out.kept hgrow (own_type HROW.out HO3.out (by decide))⟩ (Fit.grown HO3.out hgrow HFIT3.out))
      rw [HJ.out, HE.out, ← recsN_snoc] at H2
      have H3 := Lib.hid hown4
      have H4 := Lib.hid (HB4.out.trans hgr)
      have H5 : Hid ((Value.slice (some ⟨g4, 0, none⟩) (k + 1) cap4).ownBlock ≠ some G) := Lib.hid (by
        intro h
        have e : g4 = G := by simpa [Value.ownBlock] using h
        rcases hlie with h | h
        · apply HNE.out; rw [h, e]
        · omega)
      clear hown4 hgrow hlie hgr
      go_wp2_with fail
      go_roundw
      case rel => exact ⟨k + 1, m - E, cap - E, _, _, by omega, rfl, by have := HM.out; have := HJ2.out; omega, by omega, fun h => by rw [if_neg (by omega), HJ2.out], H1.out, H3.out, H5.out, H2.out, H4.out⟩
      case measure => show m - E < m; omega
    · have hm0 : m = 0 := by omega
      subst hm0
      have hkK : k = K := by
        have h1 := HKE.out
        have h2 : E * K = E * k := by omega
        exact (Nat.eq_of_mul_eq_mul_left (by omega) h2).symm
      subst hkK
      obtain ⟨A2, c2, rfl⟩ := own_slice hown
      have HR := Lib.hid (recsAt_of hown hfit (recsN_len _ _ _ n8))
      have HBL := Lib.hid hbl
      have FL : Hid (k = (spM s.data.toList n).length) := Lib.hid (by rw [← F0.out.2, recsN_length])
      clear hA hj hm hown hne hfit hbl hby
      go_wp2_with fail
      go_ret2
      exact sp_mk A2 c2 (ret_slice FL.out F0.out.1) (by rw [← F0.out.2]; exact HR.out) HBL.out
end Go.Proofs.Ytjbbkcnfilnmcaa.Nm
