/- The walks of Record, the program's and the document's. The walks of number of bytes, numbers. The walk of Split. -/
import Derived.Test.YtgpheofdeflhdaaNumLess
namespace Go.Proofs.Ytgpheofdeflhdaa.Nm
open Go.RowKit Rw

theorem recOk_cut {L : List Nat} (h1 : 1 ≤ L.length) (h8 : L.length ≤ 8) {k : Nat} (hk : k ≤ L.length) (hl : ∀ i, i < k → L.getD i 0 < 1099511627776) (hb : k < L.length → ¬ L.getD k 0 < 1099511627776) : if k < L.length then ¬ recOk L else recOk L := by
  split
  · rename_i hlt
    intro h
    apply hb hlt
    rw [List.getD_eq_getElem?_getD, List.getElem?_eq_getElem hlt]
    exact h.2.2 _ (List.getElem_mem hlt)
  · rename_i hge
    refine ⟨h1, h8, fun n hn => ?_⟩
    obtain ⟨i, hi, rfl⟩ := List.getElem_of_mem hn
    have := hl i (by omega)
    rwa [List.getD_eq_getElem?_getD, List.getElem?_eq_getElem hi] at this
theorem fives_take (L : List Nat) (k : Nat) (hk : k < L.length) : fives (L.take (k + 1)) = fives (L.take k) ++ fiveL (L.getD k 0) := by
  rw [List.take_succ_eq_append_getElem hk, fives_snoc]
  simp [List.getD_eq_getElem?_getD, List.getElem?_eq_getElem hk]
theorem rec_bad {L : List Nat} (h : ¬ recOk L) : ⟨#[]⟩ = recS L ∧ 1 = recE L := ⟨(if_neg h).symm, (if_neg h).symm⟩
theorem rec_good {L : List Nat} (h : recOk L) : ofB (fives L) = recS L ∧ 0 = recE L := ⟨(if_pos h).symm, (if_pos h).symm⟩

set_option maxHeartbeats 2000000 in
set_option maxRecDepth 100000 in
theorem record_any (L : List Nat) (p : Option Addr) (c : Nat) (w : World) (hp : Rd w p (nums L)) (hx : L.length ≤ 9223372036854775807) :
    Calls Try.prog 5 #[.slice p L.length c] w fun e w' => e = .returned (.tuple #[.string (recS L), .int .i64 (recE L)]) ∧ Below w.heap.size w w' := by
  obtain ⟨i0, hi, hz0, hz1, hz2⟩ := info_parts info_u8
  have HP := Lib.hid hp
  obtain ⟨n, hn⟩ : ∃ n, n = L.length := ⟨_, rfl⟩
  rw [← hn]; rw [← hn] at hx
  clear hp
  by_cases h1 : n < 1
  · have F := Lib.hid (rec_bad (L := L) (fun h => by have := h.1; omega))
    have t : decide ((n : Int) < 1) = true := decide_eq_true (by omega)
    clear h1 hn
    go_enter Try.func5, Try.ntmps5
    go_wp2_with fail
    go_ret2
    exact ⟨ret_str F.out.1 F.out.2, Below.refl _ _⟩
  by_cases h8 : 8 < n
  · have F := Lib.hid (rec_bad (L := L) (fun h => by have := h.2.1; omega))
    clear h1 hn
    go_enter Try.func5, Try.ntmps5
    go_wp2_with fail
    go_ret2
    exact ⟨ret_str F.out.1 F.out.2, Below.refl _ _⟩
  have HN := Lib.hid hn
  clear hn
  have h1' : 1 ≤ n := by omega
  have h8' : n ≤ 8 := by omega
  clear h1 h8 hx
  go_enter Try.func5, Try.ntmps5
  go_wp2_with (at_make; refine wpList_make_own _ rfl _ _ 36 rfl w.heap.size 5 i0 (.int .u8 0) 1 Try.underlying36 hi hz0 hz1 .i64 .i64 (5 * (n : Int)) (5 * n) rfl rfl (by omega) ?c1 ?c2 ?c3 ?_)
  case c1 => rw [hz2]; omega
  case c2 => unfold maxLen; omega
  case c3 => exact Nat.le_refl _
  intro w1 hown hgr
  have hb1 : Below w.heap.size w w1 := (Below.refl _ w).grown hgr (Nat.le_refl _) (by simp)
  have HO := Lib.hid hown; have HB := Lib.hid hb1
  clear hown hgr hb1
  go_wp2_with fail
  go_loopw [4, 6, 21] (fun u _ i wr => ∃ k : Nat, k ≤ n ∧ i = .int .i64 k ∧ (∀ i, i < k → L.getD i 0 < 1099511627776) ∧ wr.ownsRow w.heap.size 5 1 u (5 * k) (Lib.byteCells (fives (L.take k))) ∧ Below w.heap.size w wr) (fun _ _ i _ => n - (intOf i).toNat)
  case atStart => exact ⟨0, by omega, rfl, fun i hi => by omega, by simpa [fives, Lib.byteCells] using HO.out, HB.out⟩
  case round =>
    obtain ⟨k, hk, rfl, hlo, hown, hbl⟩ := hrel
    by_cases hlt : k < n
    · obtain ⟨a, rfl, ca⟩ := rd_num (HP.out.below hbl) k (by rw [← HN.out]; exact hlt)
      have hft := fives_take L k (by rw [← HN.out]; exact hlt)
      have HLO := Lib.hid hlo; have HO2 := Lib.hid hown; have HBL := Lib.hid hbl
      obtain ⟨v, hv⟩ : ∃ v, v = L.getD k 0 := ⟨_, rfl⟩
      rw [← hv] at ca hft
      have hz := hbl.size
      have HFT := Lib.hid hft; have HV := Lib.hid hv
      clear hlo hown hbl hft hv
      by_cases hbig : v < 1099511627776
      · have t : decide ((1099511627776 : Int) ≤ (v : Int)) = false := decide_eq_false (by omega)
        have HLO2 : Hid (∀ i, i < k + 1 → L.getD i 0 < 1099511627776) := Lib.hid (fun i hi => by
          rcases Nat.lt_or_ge i k with h | h
          · exact HLO.out i h
          · have e : i = k := by omega
            rw [e, ← HV.out]; exact hbig)
        clear hbig
        go_wp2_with fail
        refine (append_any v _ (5 * k) (fives (L.take k)) _ w.heap.size HO2.out (by omega) (by omega)).mono ?_
        rintro e w2 ⟨g, cap, rfl, hown2, hb2⟩
        have hb4 := HBL.out.trans hb2
        have hown3 : w2.ownsRow w.heap.size 5 1 (.slice (some ⟨g, 0, none⟩) (5 * k + 5) cap) (5 * (k + 1)) (Lib.byteCells (fives (L.take (k + 1)))) := by
          rw [HFT.out]; exact hown2
        have H3 := Lib.hid hown3; have H4 := Lib.hid hb4
        clear hown2 hb2 hown3 hb4 ca
        go_wp2_with fail
        go_roundw
        case rel => exact ⟨k + 1, by omega, by go_num, HLO2.out, H3.out, H4.out⟩
        case measure => simp [intOf]; omega
      · have F := Lib.hid (rec_bad (L := L) (by
          have h := recOk_cut (L := L) (by rw [← HN.out]; exact h1') (by rw [← HN.out]; exact h8') (k := k) (by rw [← HN.out]; exact hk) HLO.out (fun _ => by rw [← HV.out]; exact hbig)
          rwa [if_pos (by rw [← HN.out]; exact hlt)] at h))
        have t : decide ((1099511627776 : Int) ≤ (v : Int)) = true := decide_eq_true (by omega)
        clear hbig
        go_wp2_with fail
        go_ret2
        exact ⟨ret_str F.out.1 F.out.2, HBL.out⟩
    · obtain rfl : k = n := by omega
      have hr := recOk_cut (L := L) (by rw [← HN.out]; exact h1') (by rw [← HN.out]; exact h8') (k := k) (by rw [← HN.out]; exact hk) hlo (fun h => by rw [← HN.out] at h; omega)
      rw [if_neg (by rw [← HN.out]; omega)] at hr
      have F := Lib.hid (rec_good hr)
      have htk : L.take k = L := List.take_of_length_le (by rw [← HN.out]; exact Nat.le_refl _)
      rw [htk] at hown
      obtain ⟨g, cap, rfl, _, _⟩ := hown.form (by omega)
      have hbk := run_own hown (by rw [fives_length, HN.out])
      have HBL := Lib.hid hbl
      clear hlo hown hbl hr htk
      go_wp2_with fail
      go_ret2
      exact ⟨ret_str F.out.1 F.out.2, HBL.out⟩

theorem app_data (a b : List UInt8) : ofB a ++ ofB b = ofB (a ++ b) := by
  apply data_inj; rw [ofB_data]; simp [ofB]

end Go.Proofs.Ytgpheofdeflhdaa.Nm
namespace Go.Proofs.Ytgpheofdeflhdaa.Nm
open Go.RowKit Rw

theorem info_u64 : (Try.prog.info? 51).map (fun i => (i.zero, i.size, i.bytes)) = some (some (.int .u64 0), 1, 8) := by kernel_rfl
theorem info_u64s : (Try.prog.info? 22).map (fun i => (i.zero, i.size, i.bytes)) = some (some (.slice none 0 0), 1, 24) := by kernel_rfl
theorem bcells_length (L : List UInt8) : (Lib.byteCells L).length = L.length := by simp [Lib.byteCells]
theorem bcells_getD (L : List UInt8) (k : Nat) (h : k < L.length) : (Lib.byteCells L).getD k (.bool false) = .int .u8 ((L.getD k 0).toNat : Int) := by
  simp [Lib.byteCells, List.getD_eq_getElem?_getD, List.getElem?_eq_getElem h]
theorem rd_byte {w : World} {a : Addr} {L : List UInt8} (h : Rd w (some a) (Lib.byteCells L)) (k : Nat) (hk : k < L.length) : w.cell? (a.add k) = some (.int .u8 ((L.getD k 0).toNat : Int)) := by
  rw [h.at (by rw [bcells_length]; exact hk), bcells_getD L k hk]
theorem bcells_take (L : List UInt8) (k : Nat) : (Lib.byteCells L).take k = Lib.byteCells (L.take k) := by simp [Lib.byteCells]
theorem bcells_drop (L : List UInt8) (k : Nat) : (Lib.byteCells L).drop k = Lib.byteCells (L.drop k) := by simp [Lib.byteCells]
theorem ofL_grow (L : List UInt8) (k : Nat) (hk : k < L.length) : ofL (L.take (k + 1)) = 256 * ofL (L.take k) + (L.getD k 0).toNat := by
  rw [List.take_succ_eq_append_getElem hk, ofL_snoc]; simp [List.getD_eq_getElem?_getD, List.getElem?_eq_getElem hk]

set_option maxHeartbeats 1000000 in
theorem number_bytes (a : Addr) (c : Nat) (L : List UInt8) (hs : L.length = 5) (w : World) (h : Rd w (some a) (Lib.byteCells L)) :
    Calls Try.prog 50 #[.slice (some a) 5 c] w fun e w' => e = .returned (.int .u64 (ofL L : Nat)) ∧ w = w' := by
  have HS := Lib.hid hs; have HR := Lib.hid h
  clear hs h
  go_enter Try.func50, Try.ntmps50
  go_wp2_with fail
  go_loop [3, 4, 7] (fun v _ i => ∃ k : Nat, k ≤ 5 ∧ i = .int .i64 k ∧ v = .int .u64 (ofL (L.take k) : Nat)) (fun _ _ i => 5 - (intOf i).toNat)
  case atStart => exact ⟨0, by omega, rfl, rfl⟩
  case round =>
    obtain ⟨k, hk, rfl, rfl⟩ := hrel
    by_cases hlt : k < 5
    · have hc := rd_byte HR.out k (by rw [HS.out]; exact hlt)
      have hg := ofL_grow L k (by rw [HS.out]; exact hlt)
      have hv := or_val (ofL (L.take k)) (L.getD k 0) (ofL_take_lt _ _ (by omega))
      rw [← hg] at hv
      obtain ⟨b, hb⟩ : ∃ b, b = L.getD k 0 := ⟨_, rfl⟩
      rw [← hb] at hc hv
      have HB := Lib.hid hb
      clear hg hb
      go_wp2_with fail
      go_round
      case rel => exact ⟨k + 1, by omega, by go_num, rfl⟩
      case measure => simp [intOf]; omega
    · obtain rfl : k = 5 := by omega
      have F : Hid (((ofL (L.take 5) : Nat) : Int) = (ofL L : Nat)) := Lib.hid (by rw [List.take_of_length_le (by rw [HS.out]; exact Nat.le_refl _)])
      go_wp2_with fail
      go_ret
      exact ⟨ret_int F.out, rfl⟩

/-- the numbers of one record -/
def recL (l : List UInt8) (n : Nat) : List Nat := (List.range n).map fun k => ofL ((l.drop (5 * k)).take 5)
theorem recL_length (l : List UInt8) (n : Nat) : (recL l n).length = n := by simp [recL]
theorem recL_snoc (l : List UInt8) (n : Nat) : recL l (n + 1) = recL l n ++ [ofL ((l.drop (5 * n)).take 5)] := by simp [recL, List.range_succ]

set_option maxHeartbeats 2000000 in
set_option maxRecDepth 100000 in
theorem numbers_any (A : Option Addr) (c n : Nat) (L : List UInt8) (hs : L.length = 5 * n) (hc : 5 * n ≤ c) (h1 : 1 ≤ n) (h8 : n ≤ 8) (w : World) (h : Rd w A (Lib.byteCells L)) :
    Calls Try.prog 32 #[.slice A (5 * n) c] w fun e w' => ∃ g cap, e = .returned (.slice (some ⟨g, 0, none⟩) n cap) ∧ w'.ownsRow w.heap.size 51 1 (.slice (some ⟨g, 0, none⟩) n cap) n (nums (recL L n)) ∧ Below w.heap.size w w' := by
  obtain ⟨i0, hi, hz0, hz1, hz2⟩ := info_parts info_u64
  obtain ⟨a, rfl, _⟩ := h.form (by rw [bcells_length]; omega)
  have HR := Lib.hid h; have HS := Lib.hid hs
  clear h hs
  obtain ⟨N, hN⟩ : ∃ N, N = 5 * n := ⟨_, rfl⟩
  rw [← hN] at hc ⊢
  have e1 : (N : Int) / 5 = (n : Int) := by omega
  have e2 : (N : Int).tdiv 5 = (n : Int) := by rw [Int.tdiv_eq_ediv_of_nonneg (by omega)]; exact e1
  have e3 : IntKind.i64.wrap (n : Int) = (n : Int) := IntWalk.i64_in _ (by omega)
  have hN40 : N ≤ 40 := by omega
  have HN := Lib.hid hN
  clear hN
  go_enter Try.func32, Try.ntmps32
  go_wp2_with (at_make; refine wpList_make_own _ rfl _ _ 22 rfl w.heap.size 51 i0 (.int .u64 0) 1 Try.underlying22 hi hz0 hz1 .i64 .i64 (n : Int) n rfl rfl rfl ?c1 ?c2 ?c3 ?_)
  case c1 => rw [hz2]; omega
  case c2 => unfold maxLen; omega
  case c3 => exact Nat.le_refl _
  intro w1 hown hgr
  have hb1 : Below w.heap.size w w1 := (Below.refl _ w).grown hgr (Nat.le_refl _) (by simp)
  have HO := Lib.hid hown; have HB := Lib.hid hb1
  clear hown hgr hb1
  go_wp2_with fail
  go_loopw [3, 4] (fun u i wr => ∃ k : Nat, k ≤ n ∧ i = .int .i64 (5 * k : Nat) ∧ wr.ownsRow w.heap.size 51 1 u k (nums (recL L k)) ∧ Below w.heap.size w wr) (fun _ i _ => N - (intOf i).toNat)
  case atStart => exact ⟨0, by omega, rfl, by simpa [recL, nums] using HO.out, HB.out⟩
  case round =>
    obtain ⟨k, hk, rfl, hown, hbl⟩ := hrel
    obtain ⟨j, hj⟩ : ∃ j, j = 5 * k := ⟨_, rfl⟩
    rw [← hj]
    by_cases hlt : k < n
    · have HO2 := Lib.hid hown; have HBL := Lib.hid hbl
      have hz := hbl.size
      have hrd : Rd wr (some (a.add j)) (Lib.byteCells ((L.drop (5 * k)).take 5)) := by
        have h2 := (((HR.out.below hbl).cut j (by rw [bcells_length, HS.out]; omega)).take 5)
        rw [bcells_drop, bcells_take, hj] at h2
        rw [hj]; exact h2
      have hl5 : ((L.drop (5 * k)).take 5).length = 5 := by rw [List.length_take, List.length_drop, HS.out]; omega
      have HRD := Lib.hid hrd; have HL5 := Lib.hid hl5; have HSN := Lib.hid (recL_snoc L k)
      have jn : j + 5 ≤ N := by have := HN.out; omega
      have HJ := Lib.hid hj
      obtain ⟨v, hv⟩ : ∃ v, v = ofL ((L.drop (5 * k)).take 5) := ⟨_, rfl⟩
      rw [← hv] at HSN
      have HV := Lib.hid hv
      have j0 : (0 : Int) ≤ (j : Int) := by omega
      have j5 : (j : Int) + 5 ≤ (N : Int) := by omega
      have jc : (j : Int) + 5 ≤ (c : Int) := by omega
      clear hown hbl hrd hl5 hj hv
      go_wp2_with fail
      refine (number_bytes (a.add j) _ _ HL5.out _ HRD.out).mono ?_
      rw [← HV.out]
      rintro e w' ⟨rfl, rfl⟩
      go_wp2_with (at_builtin; refine Rw.push rfl _ _ 22 rfl w.heap.size 51 i0 (.int .u64 0) 1 8 Try.underlying22 hi hz0 hz1 hz2 rfl (by decide) _ _ _ rfl HO2.out [.int .u64 (v : Int)] rfl rfl rfl (by omega) (by omega) (by omega) ?_)
      intro g cap w2 hown2 _ _ _ hgr
      have hb4 := HBL.out.trans hgr
      have hown3 : w2.ownsRow w.heap.size 51 1 (.slice (some ⟨g, 0, none⟩) (k + 1) cap) (k + 1) (nums (recL L (k + 1))) := by
        rw [HSN.out, nums_snoc]; exact hown2
      have H3 := Lib.hid hown3; have H4 := Lib.hid hb4
      clear hown2 hgr hown3 hb4
      go_wp2_with fail
      go_roundw
      case rel => exact ⟨k + 1, by omega, by have := HJ.out; go_num, H3.out, H4.out⟩
      case measure => simp [intOf]; omega
    · obtain rfl : k = n := by omega
      obtain ⟨g, cap, rfl, _, _⟩ := hown.form (by omega)
      have HO2 := Lib.hid hown; have HBL := Lib.hid hbl
      have hjN : j = N := by rw [hj, HN.out]
      subst hjN
      clear hown hbl hj
      go_wp2_with fail
      go_ret
      exact ⟨g, cap, rfl, HO2.out, HBL.out⟩
end Go.Proofs.Ytgpheofdeflhdaa.Nm
namespace Go.Proofs.Ytgpheofdeflhdaa.Nm
open Go.RowKit Rw

theorem own_type {w : World} {B B' : Nat} {e e' : TypeId} {s s' : Nat} {v v' : Value} {n n' : Nat} {xs xs' : List Value} (h : w.ownsRow B e s v n xs) (h' : w.ownsRow B' e' s' v' n' xs') (hne : e ≠ e') : v.ownBlock = none ∨ v.ownBlock ≠ v'.ownBlock := by
  rcases h.2 with ⟨rfl, _⟩ | ⟨g, cap, cur, rfl, _, hh, _⟩
  · exact .inl rfl
  · right
    intro he
    rcases h'.2 with ⟨rfl, _⟩ | ⟨g', cap', cur', rfl, _, hh', _⟩
    · simp [Value.ownBlock] at he
    · have e2 : g = g' := by simpa [Value.ownBlock] using he
      subst e2
      rw [hh] at hh'
      injection hh' with hh'
      injection hh' with _ ht
      exact hne ht
/-- rows of numbers, each of the call's own -/
def Fit (w : World) : List Value → List (List Nat) → Prop
  | [], [] => True
  | x :: xs, L :: M => (∃ B, w.ownsRow B 51 1 x L.length (nums L)) ∧ Fit w xs M
  | _, _ => False
theorem Fit.below {w w' : World} (hb : Below w.heap.size w w') : ∀ {xs : List Value} {M : List (List Nat)}, Fit w xs M → Fit w' xs M
  | [], [], _ => trivial
  | _ :: _, _ :: _, ⟨⟨B, h⟩, r⟩ => ⟨⟨B, own_below h hb⟩, Fit.below hb r⟩
  | [], _ :: _, h => h.elim
  | _ :: _, [], h => h.elim
theorem Fit.grown {w w' : World} {B : Nat} {v : Value} {n : Nat} {ys : List Value} (ho : w.ownsRow B 22 1 v n ys) (hg : w.grownBy w' v.ownBlock) : ∀ {xs : List Value} {M : List (List Nat)}, Fit w xs M → Fit w' xs M
  | [], [], _ => trivial
  | _ :: _, _ :: _, ⟨⟨C, h⟩, r⟩ => ⟨⟨C, h.kept hg (own_type h ho (by decide))⟩, Fit.grown ho hg r⟩
  | [], _ :: _, h => h.elim
  | _ :: _, [], h => h.elim
theorem Fit.snoc {w : World} {x : Value} {L : List Nat} (hx : ∃ B, w.ownsRow B 51 1 x L.length (nums L)) : ∀ {xs : List Value} {M : List (List Nat)}, Fit w xs M → Fit w (xs ++ [x]) (M ++ [L])
  | [], [], _ => ⟨hx, trivial⟩
  | _ :: _, _ :: _, ⟨h, r⟩ => ⟨h, Fit.snoc hx r⟩
  | [], _ :: _, h => h.elim
  | _ :: _, [], h => h.elim
theorem Fit.length {w : World} : ∀ {xs : List Value} {M : List (List Nat)}, Fit w xs M → xs.length = M.length
  | [], [], _ => rfl
  | _ :: _, _ :: _, ⟨_, r⟩ => by simp [Fit.length r]
  | [], _ :: _, h => h.elim
  | _ :: _, [], h => h.elim
theorem Fit.at {w : World} : ∀ {xs : List Value} {M : List (List Nat)}, Fit w xs M → ∀ i, i < M.length → ∃ B, w.ownsRow B 51 1 (xs.getD i (.bool false)) (M.getD i []).length (nums (M.getD i []))
  | [], [], _, i, hi => absurd hi (by simp)
  | x :: xs, L :: M, ⟨h, r⟩, 0, _ => by simpa using h
  | x :: xs, L :: M, ⟨h, r⟩, i + 1, hi => by simpa using Fit.at r i (by simpa using hi)
  | [], _ :: _, h, _, _ => h.elim
  | _ :: _, [], h, _, _ => h.elim
theorem own_slice {w : World} {B : Nat} {e : TypeId} {v : Value} {n : Nat} {xs : List Value} (h : w.ownsRow B e 1 v n xs) : ∃ A cap, v = .slice A n cap := by
  rcases h.2 with ⟨rfl, rfl⟩ | ⟨g, cap, cur, rfl, _⟩
  · exact ⟨_, _, rfl⟩
  · exact ⟨_, _, rfl⟩
theorem recsAt_of {w : World} {B : Nat} {A : Option Addr} {n cap : Nat} {xs : List Value} {M : List (List Nat)} (h : w.ownsRow B 22 1 (.slice A n cap) n xs) (hf : Fit w xs M) (hm : ∀ L ∈ M, L.length ≤ 8) : RecsAt w A M := by
  intro i hi
  obtain ⟨a, e, hl, hc⟩ := (Rd.of_own h) i (by rw [hf.length]; exact hi)
  obtain ⟨C, ho⟩ := hf.at i hi
  obtain ⟨q, c, hv⟩ := own_slice ho
  rw [hv] at hc ho
  refine ⟨a, q, c, e, hl, hc, Rd.of_own ho, ?_⟩
  have h8 : (M.getD i []).length ≤ 8 := hm _ (by rw [List.getD_eq_getElem?_getD, List.getElem?_eq_getElem hi]; exact List.getElem_mem hi)
  omega

/-- the first k records of some bytes -/
def recsN (l : List UInt8) (n k : Nat) : List (List Nat) := (List.range k).map fun i => recL (l.drop (5 * n * i)) n
theorem recsN_length (l : List UInt8) (n k : Nat) : (recsN l n k).length = k := by simp [recsN]
theorem recsN_snoc (l : List UInt8) (n k : Nat) : recsN l n (k + 1) = recsN l n k ++ [recL (l.drop (5 * n * k)) n] := by simp [recsN, List.range_succ]
theorem recsN_len (l : List UInt8) (n k : Nat) (h : n ≤ 8) : ∀ L ∈ recsN l n k, L.length ≤ 8 := by
  intro L hL
  simp only [recsN, List.mem_map] at hL
  obtain ⟨i, _, rfl⟩ := hL
  rw [recL_length]; exact h
theorem recL_take (l : List UInt8) (n : Nat) : recL (l.take (5 * n)) n = recL l n := by
  unfold recL
  apply List.map_congr_left
  intro k hk
  rw [List.mem_range] at hk
  rw [List.drop_take, List.take_take, Nat.min_eq_left (by omega)]
def spE (l : List UInt8) (w : Int) : Int := if w < 1 ∨ 8 < w then 1 else if l.length % (5 * w.toNat) ≠ 0 then 5 else 0
def spM (l : List UInt8) (w : Int) : List (List Nat) := if spE l w = 0 then recsN l w.toNat (l.length / (5 * w.toNat)) else []
theorem sp_bad {l : List UInt8} {w E : Int} (h : spE l w = E) (h0 : E ≠ 0) : spM l w = [] ∧ E = spE l w := ⟨by unfold spM; rw [if_neg (by rw [h]; exact h0)], h.symm⟩

theorem Row_kept {w w' : World} {g : Nat} {l : List UInt8} {row : Option Nat} (h : Row.Bytes w g l) (hg : w.grownBy w' row) (hne : some g ≠ row) : Row.Bytes w' g l :=
  ⟨Nat.lt_of_lt_of_le h.lt hg.size, fun j hj => by rw [World.cell?_of_block (hg.block g h.lt hne)]; exact h.cell j hj, fun j hj => by rw [World.frozen?_of_block (hg.block g h.lt hne)]; exact h.free j hj⟩
theorem rd_of_bytes {w : World} {g : Nat} {l : List UInt8} (h : Row.Bytes w g l) (o n : Nat) : Rd w (some ⟨g, o, none⟩) (Lib.byteCells ((l.drop o).take n)) := fun i hi => by
  rw [bcells_length, List.length_take, List.length_drop] at hi
  refine ⟨_, rfl, h.lt, ?_⟩
  have e1 : ((⟨g, o, none⟩ : Addr).add i) = ⟨g, o + i, none⟩ := by simp [Addr.add] <;> omega
  rw [e1, h.cell (o + i) (by omega), bcells_getD _ _ (by rw [List.length_take, List.length_drop]; omega)]
  simp only [List.getD_eq_getElem?_getD, List.getElem?_take, List.getElem?_drop, if_pos (show i < n by omega)]
theorem ret_slice {A : Option Addr} {n m c : Nat} {a b : Int} (h : n = m) (k : a = b) : Ending.returned (.tuple #[.slice A n c, .int .i64 a]) = .returned (.tuple #[.slice A m c, .int .i64 b]) := by rw [h, k]
/-- what Split leaves -/
def SplitPost (w : World) (M : List (List Nat)) (E : Int) (e : Ending) (w' : World) : Prop := ∃ A cap, e = .returned (.tuple #[.slice A M.length cap, .int .i64 E]) ∧ RecsAt w' A M ∧ Below w.heap.size w w'
theorem sp_mk {w w' : World} {M : List (List Nat)} {E : Int} {e : Ending} (A : Option Addr) (cap : Nat) (he : e = .returned (.tuple #[.slice A M.length cap, .int .i64 E])) (hr : RecsAt w' A M) (hb : Below w.heap.size w w') : SplitPost w M E e w' := ⟨A, cap, he, hr, hb⟩
theorem recsAt_nil (w : World) : RecsAt w none [] := fun i hi => absurd hi (by simp)

def slen : Value → Nat
  | .slice _ m _ => m
  | _ => 0
theorem numbers_at (A : Option Addr) (c n N : Nat) (hN : N = 5 * n) (L : List UInt8) (hs : L.length = N) (hc : N ≤ c) (h1 : 1 ≤ n) (h8 : n ≤ 8) (w : World) (h : Rd w A (Lib.byteCells L)) :
    Calls Try.prog 32 #[.slice A N c] w fun e w' => ∃ g cap, e = .returned (.slice (some ⟨g, 0, none⟩) n cap) ∧ w'.ownsRow w.heap.size 51 1 (.slice (some ⟨g, 0, none⟩) n cap) n (nums (recL L n)) ∧ Below w.heap.size w w' := by
  subst hN
  exact numbers_any A c n L hs hc h1 h8 w h

set_option maxHeartbeats 4000000 in
set_option maxRecDepth 100000 in
theorem split_any (s : ByteArray) (wd : Int) (w : World) (hs : s.size ≤ 2000000) :
    Calls Try.prog 12 #[.string s, .int .i64 wd] w (SplitPost w (spM s.data.toList wd) (spE s.data.toList wd)) := by
  obtain ⟨i0, hi, hz0, hz1, hz2⟩ := info_parts info_u64s
  by_cases h1 : wd < 1
  · have F := Lib.hid (sp_bad (l := s.data.toList) (w := wd) (E := 1) (if_pos (.inl h1)) (by decide))
    go_enter Try.func12, Try.ntmps12
    go_wp2_with fail
    go_ret2
    exact sp_mk none 0 (ret_slice (by rw [F.out.1]; rfl) F.out.2) (by rw [F.out.1]; exact recsAt_nil _) (Below.refl _ _)
  by_cases h8 : 8 < wd
  · have F := Lib.hid (sp_bad (l := s.data.toList) (w := wd) (E := 1) (if_pos (.inr h8)) (by decide))
    have t : decide (wd < 1) = false := decide_eq_false h1
    go_enter Try.func12, Try.ntmps12
    go_wp2_with fail
    go_ret2
    exact sp_mk none 0 (ret_slice (by rw [F.out.1]; rfl) F.out.2) (by rw [F.out.1]; exact recsAt_nil _) (Below.refl _ _)
  obtain ⟨n, rfl⟩ := Int.eq_ofNat_of_zero_le (show 0 ≤ wd by omega)
  have n1 : 1 ≤ n := by omega
  have n8 : n ≤ 8 := by omega
  have hsp : spE s.data.toList n = if s.size % (5 * n) ≠ 0 then 5 else 0 := by
    unfold spE; rw [if_neg (by omega), Int.toNat_natCast, size_data]
  have HSP := Lib.hid hsp
  clear hsp h1 h8
  obtain ⟨E, hE⟩ : ∃ E, E = 5 * n := ⟨_, rfl⟩
  have e1 : 5 * (n : Int) = (E : Int) := by omega
  have hE0 : 5 ≤ E := by omega
  have hE40 : E ≤ 40 := by omega
  rw [← hE] at HSP
  have r1 : (s.size : Int).tmod (E : Int) = ((s.size % E : Nat) : Int) := by rw [Int.tmod_eq_emod_of_nonneg (by omega)]; simp
  have r2 : (s.size : Int) % (E : Int) = ((s.size % E : Nat) : Int) := by simp
  have z0 : ((E : Int) == 0) = false := by rw [beq_eq_false_iff_ne]; omega
  obtain ⟨r, hr⟩ : ∃ r, r = s.size % E := ⟨_, rfl⟩
  rw [← hr] at r1 r2 HSP
  by_cases hr0 : r = 0
  case neg =>
    have F := Lib.hid (sp_bad (l := s.data.toList) (w := n) (E := 5) (by rw [HSP.out, if_pos hr0]) (by decide))
    have t : ((r : Int) != 0) = true := by rw [bne_iff_ne]; omega
    have HE := Lib.hid hE
    clear hr hr0 hE
    go_enter Try.func12, Try.ntmps12
    go_wp2_with fail
    go_ret2
    exact sp_mk none 0 (ret_slice (by rw [F.out.1]; rfl) F.out.2) (by rw [F.out.1]; exact recsAt_nil _) (Below.refl _ _)
  have t : ((r : Int) != 0) = false := by rw [bne_eq_false_iff_eq]; omega
  obtain ⟨K, hK⟩ : ∃ K, K = s.size / E := ⟨_, rfl⟩
  have hKE : E * K = s.size := by have := Nat.div_add_mod s.size E; rw [← hK, ← hr, hr0] at this; omega
  have q1 : (s.size : Int).tdiv (E : Int) = (K : Int) := by rw [Int.tdiv_eq_ediv_of_nonneg (by omega), hK]; simp
  have q2 : (s.size : Int) / (E : Int) = (K : Int) := by rw [hK]; simp
  have hK9 : K ≤ 2000000 := by rw [hK]; exact Nat.le_trans (Nat.div_le_self _ _) hs
  have wK : IntKind.i64.wrap (K : Int) = (K : Int) := IntWalk.i64_in _ (by omega)
  have F0 : Hid (0 = spE s.data.toList n ∧ recsN s.data.toList n K = spM s.data.toList n) := Lib.hid (by
    have e : spE s.data.toList n = 0 := by rw [HSP.out, if_neg (by rw [hr0]; simp)]
    exact ⟨e.symm, by unfold spM; rw [if_pos e, Int.toNat_natCast, size_data, ← hE, ← hK]⟩)
  have HE := Lib.hid hE; have HKE := Lib.hid hKE
  clear hr hr0 hE hK hKE
  go_enter Try.func12, Try.ntmps12
  go_wp2_with (at_make; refine wpList_make_own _ rfl _ _ 42 rfl w.heap.size 22 i0 (.slice none 0 0) 1 Try.underlying42 hi hz0 hz1 .i64 .i64 (K : Int) K rfl rfl rfl ?c1 ?c2 ?c3 ?_)
  case c1 => rw [hz2]; omega
  case c2 => unfold maxLen; omega
  case c3 => exact Nat.le_refl _
  intro w1 hown hgr
  have hb1 : Below w.heap.size w w1 := (Below.refl _ w).grown hgr (Nat.le_refl _) (by simp)
  have hlt1 : w.heap.size < w1.heap.size := by
    rcases hown.2 with ⟨h0, _⟩ | ⟨g, cp, cur, hv, _, hh, _⟩
    · cases h0
    · cases hv; exact (Array.getElem?_eq_some_iff.1 hh).1
  have hmk := Row.run_make w1 s
  have hby := Row.madeOf_bytes w1 s
  have hbw := Row.madeOf_below w1 s
  have hsz := Row.madeOf_size w1 s
  have hge := grownCap_ge w1 s.size 0 5
  obtain ⟨C, hC⟩ : ∃ C, C = grownCap w1 s.size 0 5 := ⟨_, rfl⟩
  obtain ⟨w2, hw2⟩ : ∃ w2, w2 = Row.madeOf w1 s := ⟨_, rfl⟩
  rw [← hC] at hmk hge
  rw [← hw2] at hmk hby hbw hsz
  have HO := Lib.hid (own_below hown hbw); have HB := Lib.hid (hb1.trans (hbw.mono hb1.size)); have HBY := Lib.hid hby
  obtain ⟨G, hG⟩ : ∃ G, G = w1.heap.size := ⟨_, rfl⟩
  rw [← hG] at HBY hmk hsz hlt1
  have hsz2 : G < w2.heap.size := by omega
  clear hown hgr hb1 hby hbw hC hw2 hG hsz
  go_wp2_with fail
  go_loopw [7, 8] (fun u v wr => ∃ (k m cap : Nat) (A : Option Addr) (xs : List Value), k ≤ K ∧ v = .slice A m cap ∧ m + E * k = s.size ∧ m ≤ cap ∧ (0 < m → A = some ⟨G, E * k, none⟩) ∧ Row.Bytes wr G s.data.toList ∧ wr.ownsRow w.heap.size 22 1 u k xs ∧ u.ownBlock ≠ some G ∧ Fit wr xs (recsN s.data.toList n k) ∧ Below w.heap.size w wr) (fun _ v _ => slen v)
  case atStart => exact ⟨0, s.size, C, _, [], by omega, rfl, by omega, hge, fun _ => rfl, HBY.out, HO.out, by simp [Value.ownBlock]; omega, trivial, HB.out⟩
  case round =>
    obtain ⟨k, m, cap, A, xs, hk, rfl, hm, hmc, hA, hby, hown, hne, hfit, hbl⟩ := hrel
    obtain ⟨j, hj⟩ : ∃ j, j = E * k := ⟨_, rfl⟩
    rw [← hj] at hm hA
    by_cases hlt : 0 < m
    · obtain rfl := hA hlt
      have hkK : k < K := by
        rcases Nat.lt_or_ge k K with h | h
        · exact h
        · have : E * K ≤ E * k := Nat.mul_le_mul_left E h
          have := HKE.out; omega
      have hmE : E ≤ m := by
        have : E * (k + 1) ≤ E * K := Nat.mul_le_mul_left E hkK
        rw [Nat.mul_add] at this
        have := HKE.out; omega
      have hl5 : ((s.data.toList.drop j).take E).length = E := by rw [List.length_take, List.length_drop, size_data]; omega
      have HRD := Lib.hid (rd_of_bytes hby j E)
      have hbB := hbl.size
      have HJ := Lib.hid hj; have HL5 := Lib.hid hl5; have HBY2 := Lib.hid hby; have HO2 := Lib.hid hown; have HNE := Lib.hid hne; have HFIT := Lib.hid hfit; have HBL := Lib.hid hbl; have HM := Lib.hid hm
      have HJ2 : Hid (E * (k + 1) = j + E) := Lib.hid (by rw [Nat.mul_add, ← hj]; omega)
      have l1 : (E : Int) ≤ (m : Int) := by omega
      have l2 : (E : Int) ≤ (cap : Int) := by omega
      have l3 : (0 : Int) ≤ (E : Int) := by omega
      have m0 : (0 : Int) < (m : Int) := by omega
      have hkb : k ≤ 2000000 := by omega
      have hGr : G < wr.heap.size := by have := hby.lt; exact this
      clear hA hj hl5 hby hown hne hfit hbl hm
      go_wp2_with fail
      refine (numbers_at _ _ n E HE.out ((s.data.toList.drop j).take E) HL5.out (by omega) n1 n8 _ HRD.out).mono ?_
      rintro e w3 ⟨g, c2, rfl, hrow, hb3⟩
      have hby3 := HBY2.out.below hb3
      have hfit3 := Fit.below hb3 HFIT.out
      have ho3 := own_below HO2.out hb3
      have hb4 := HBL.out.trans (hb3.mono hbB)
      have hz3 := hb3.size
      rw [HE.out, recL_take] at hrow
      have HROW := Lib.hid hrow; have HBY3 := Lib.hid hby3; have HFIT3 := Lib.hid hfit3; have HO3 := Lib.hid ho3; have HB4 := Lib.hid hb4
      clear hrow hby3 hfit3 ho3 hb4 hb3
      go_wp2_with (at_builtin; refine Rw.push rfl _ _ 42 rfl w.heap.size 22 i0 (.slice none 0 0) 1 24 Try.underlying42 hi hz0 hz1 hz2 rfl (by decide) _ _ _ rfl HO3.out [.slice (some ⟨g, 0, none⟩) n c2] rfl rfl rfl (by omega) (by omega) (by omega) ?_)
      intro g4 cap4 w4 hown4 hgrow hlie _ hgr
      have H1 := Lib.hid (Row_kept HBY3.out hgrow (fun h => HNE.out h.symm))
      have H2 := Lib.hid (Fit.snoc ⟨_, by rw [recL_length]; exact HROW.out.kept hgrow (own_type HROW.out HO3.out (by decide))⟩ (Fit.grown HO3.out hgrow HFIT3.out))
      rw [HJ.out, HE.out, ← recsN_snoc] at H2
      have H3 := Lib.hid hown4
      have H4 := Lib.hid (HB4.out.trans hgr)
      have H5 : Hid ((Value.slice (some ⟨g4, 0, none⟩) (k + 1) cap4).ownBlock ≠ some G) := Lib.hid (by
        intro h
        have e : g4 = G := by simpa [Value.ownBlock] using h
        rcases hlie with h | h
        · apply HNE.out; rw [h, e]
        · omega)
      clear hown4 hgrow hlie hgr
      go_wp2_with fail
      go_roundw
      case rel => exact ⟨k + 1, m - E, cap - E, _, _, by omega, rfl, by have := HM.out; have := HJ2.out; omega, by omega, fun h => by rw [if_neg (by omega), HJ2.out], H1.out, H3.out, H5.out, H2.out, H4.out⟩
      case measure => show m - E < m; omega
    · have hm0 : m = 0 := by omega
      subst hm0
      have hkK : k = K := by
        have h1 := HKE.out
        have h2 : E * K = E * k := by omega
        exact (Nat.eq_of_mul_eq_mul_left (by omega) h2).symm
      subst hkK
      obtain ⟨A2, c2, rfl⟩ := own_slice hown
      have HR := Lib.hid (recsAt_of hown hfit (recsN_len _ _ _ n8))
      have HBL := Lib.hid hbl
      have FL : Hid (k = (spM s.data.toList n).length) := Lib.hid (by rw [← F0.out.2, recsN_length])
      clear hA hj hm hown hne hfit hbl hby
      go_wp2_with fail
      go_ret2
      exact sp_mk A2 c2 (ret_slice FL.out F0.out.1) (by rw [← F0.out.2]; exact HR.out) HBL.out
end Go.Proofs.Ytgpheofdeflhdaa.Nm
