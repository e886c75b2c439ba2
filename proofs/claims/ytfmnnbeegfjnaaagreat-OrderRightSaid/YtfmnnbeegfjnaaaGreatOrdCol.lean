/- The walk of the document's Column. -/
import Derived.Test.YtfmnnbeegfjnaaaGreatOrdTxt
import Derived.Test.YtfmnnbeegfjnaaaGreatOrdEnds
namespace Go.Proofs.YtfmnnbeegfjnaaaGreat.Od
open Go.RowKit Go.Lib Rw Nm Ls

/-- bytes, as they lie in memory -/
def u8s (L : List Nat) : List Value := L.map fun (n : Nat) => Value.int .u8 (n : Int)
theorem u8s_length (L : List Nat) : (u8s L).length = L.length := by simp [u8s]
theorem u8s_snoc (L : List Nat) (n : Nat) : u8s (L ++ [n]) = u8s L ++ [.int .u8 (n : Int)] := by simp [u8s]
theorem bytes_of {w : World} {B g n cap : Nat} {L : List Nat} (h : w.ownsRow B 5 1 (.slice (some ⟨g, 0, none⟩) n cap) n (u8s L)) (hL : ∀ x ∈ L, x < 256) : Row.Bytes w g (L.map UInt8.ofNat) := by
  have hlen := h.1
  rw [u8s_length] at hlen
  refine ⟨(h.lt g rfl).2, fun j hj => ?_, fun j _ => h.frozenAt j⟩
  rw [List.length_map] at hj
  rw [h.cellAt j (by omega)]
  have hx := hL L[j] (List.getElem_mem _)
  simp [u8s, List.getD_eq_getElem?_getD, hj]
  omega
theorem toList_data (s : ByteArray) : s.toList = s.data.toList := by obtain ⟨⟨l⟩⟩ := s; simp
theorem colT_lt {s : List Nat} (h : ∀ x ∈ s, x < 256) (k : Nat) : ∀ x ∈ colT s k, x < 256 := by
  have hg : ∀ i, s.getD i 0 < 256 := fun i => by
    rw [List.getD_eq_getElem?_getD]
    cases hi : s[i]? with
    | none => simp
    | some v => exact h v (List.mem_of_getElem? hi)
  intro x hx
  unfold colT at hx
  rcases List.mem_cons.1 hx with rfl | hx
  · exact hg _
  · obtain ⟨e, _, rfl⟩ := List.mem_map.1 hx
    exact hg _
theorem bsN_lt (s : ByteArray) : ∀ x ∈ bsN s, x < 256 := by
  intro x hx
  unfold bsN at hx
  obtain ⟨c, _, rfl⟩ := List.mem_map.1 hx
  exact c.toNat_lt
theorem prim_at (s : List Nat) (h : s ≠ []) {k : Nat} (hk : k < s.length) (h0 : (ends s).getD k 0 = 0) : prim s = k + 1 := by
  have hl := ends_length s
  have h1 : (rowsOf s)[k + 1]'(by rw [rows_length]; omega) = 0 := by
    unfold rowsOf
    rw [List.getElem_cons_succ, ← gd (by omega)]; exact h0
  have := rowOf_at s (r := k + 1) (by rw [rows_length]; omega)
  rw [h1] at this
  rw [prim_row s h]; exact this
/-- the primary, if it was met -/
def primT (s : List Nat) (k : Nat) : Nat := if prim s ≤ k then prim s else 0
theorem primT_succ (s : List Nat) (h : s ≠ []) (k : Nat) (hk : k < s.length) : primT s (k + 1) = if (ends s).getD k 0 = 0 then k + 1 else primT s k := by
  by_cases e : (ends s).getD k 0 = 0
  · rw [if_pos e]
    have := prim_at s h hk e
    unfold primT; rw [this, if_pos (Nat.le_refl _)]
  · rw [if_neg e]
    unfold primT
    by_cases h1 : prim s ≤ k
    · rw [if_pos h1, if_pos (by omega)]
    · rw [if_neg h1]
      by_cases h2 : prim s ≤ k + 1
      · exfalso
        have hp : prim s = k + 1 := by omega
        have hr := prim_row s h
        have ha := at_rowOf s (q := 0) (Nat.zero_le _)
        have hl := ends_length s
        have e2 : (rowsOf s)[k + 1]'(by rw [rows_length]; omega) = 0 := by
          have : rowOf s 0 = k + 1 := by omega
          simp only [this] at ha
          exact ha
        unfold rowsOf at e2
        rw [List.getElem_cons_succ, ← gd (by omega)] at e2
        exact e e2
      · rw [if_neg h2]
theorem own_block {w : World} {B : Nat} {e : TypeId} {s : Nat} {v : Value} {n : Nat} {xs : List Value} (h : w.ownsRow B e s v n xs) (h0 : 0 < n) : ∃ g cap, v = .slice (some ⟨g, 0, none⟩) n cap := by
  rcases h.2 with ⟨rfl, hn⟩ | ⟨g, cap, cur, rfl, _⟩
  · omega
  · exact ⟨g, cap, rfl⟩
theorem rcolumn_no (s : ByteArray) (w : World) (h : 4096 < s.size) (hl : s.size ≤ 1000000000) :
    Calls Tryz.prog 20 #[.string s] w fun e w' => e = .returned (.tuple #[.string ⟨#[]⟩, .int .i64 0, .int .i64 1]) ∧ Below w.heap.size w w' := by
  have HN := Lib.hid (numbers_any s w hl)
  have hE : Hid (∀ (p : Option Addr) (c : Nat) (w : World), Calls Tryz.prog 11 #[.slice p (bsN s).length c] w (PlacesP w [] 1)) := Lib.hid (fun p c w => rends_no (bsN s) p c w (by rw [bsN_length]; omega) (by rw [bsN_length]; exact h))
  clear h
  go_enter Tryz.func20, Tryz.ntmps20
  go_wp2_with fail
  refine HN.out.mono ?_
  rintro e w1 ⟨q, c, rfl, _, _, _, b⟩
  have B1 := Lib.hid b
  clear b
  go_wp2_with fail
  refine (hE.out _ _ _).mono ?_
  rintro e w2 ⟨q2, c2, rfl, _, _, _, _, b⟩
  have B2 := Lib.hid (B1.out.trans (b.mono B1.out.size))
  clear b
  go_wp2_with fail
  refine bodyPost_ret (v := .tuple #[.string ⟨#[]⟩, .int .i64 0, .int .i64 1]) (by simp [results, Tryz.results20, go_sem]) rfl ?_
  exact ⟨rfl, B2.out⟩
set_option maxHeartbeats 8000000 in
set_option maxRecDepth 100000 in
theorem rcolumn_any (s : ByteArray) (w : World) (hl : s.size ≤ 4096) :
    Calls Tryz.prog 20 #[.string s] w fun e w' => e = .returned (.tuple #[.string (ofN (col (bsN s))), .int .i64 (prim (bsN s)), .int .i64 0]) ∧ Below w.heap.size w w' := by
  obtain ⟨i0, hi0, hz0, hz1, hz2⟩ := info_parts info_u8
  have HN := Lib.hid (numbers_any s w (by omega))
  have HC := Lib.hid (bsN_length s)
  have hE : Hid (∀ (p : Option Addr) (c : Nat) (w : World), Rd w p (nums (bsN s)) → (bsN s).length ≤ c → Calls Tryz.prog 11 #[.slice p (bsN s).length c] w (PlacesP w (ends (bsN s)) 0)) := Lib.hid (fun p c w h1 h2 => rends_any (bsN s) p c w h1 h2 (by rw [bsN_length]; exact hl))
  by_cases h0 : s.size = 0
  · have hs : s = ⟨#[]⟩ := by
      apply ByteArray.ext
      apply Array.eq_empty_of_size_eq_zero
      exact h0
    subst hs
    clear h0
    have E1 : Hid (ofN (col (bsN ⟨#[]⟩)) = ⟨#[]⟩ ∧ prim (bsN ⟨#[]⟩) = 0) := Lib.hid ⟨rfl, rfl⟩
    rw [E1.out.1, E1.out.2]
    go_enter Tryz.func20, Tryz.ntmps20
    go_wp2_with fail
    refine HN.out.mono ?_
    rintro e w1 ⟨q, c, rfl, hqc, hr, _, b⟩
    have B1 := Lib.hid b; have R1 := Lib.hid hr
    clear b hr
    go_wp2_with fail
    refine (hE.out _ _ _ R1.out hqc).mono ?_
    rintro e w2 ⟨q2, c2, rfl, _, _, _, _, b⟩
    have B2 := Lib.hid (B1.out.trans (b.mono B1.out.size))
    clear b
    go_wp2_with fail
    refine bodyPost_ret (v := .tuple #[.string ⟨#[]⟩, .int .i64 0, .int .i64 0]) (by simp [results, Tryz.results20, go_sem]) rfl ?_
    exact ⟨rfl, B2.out⟩
  · have ht : ¬ (s.toList = []) := by
      intro h
      apply h0
      rw [← bsN_length, bsN, ← toList_data, h]; rfl
    have ht2 : (s.toList == ([] : List UInt8)) = false := by rw [beq_eq_false_iff_ne]; exact ht
    have ht3 : s.toList.isEmpty = false := List.isEmpty_eq_false_iff.2 ht
    have HE0 : Hid (bsN s ≠ []) := Lib.hid (by intro h; have := HC.out; rw [h] at this; simp at this; omega)
    go_enter Tryz.func20, Tryz.ntmps20
    go_wp2_with fail
    refine HN.out.mono ?_
    rintro e w1 ⟨q, c, rfl, hqc, hr, _, b⟩
    have B1 := Lib.hid b; have R1 := Lib.hid hr
    clear b hr
    go_wp2_with fail
    refine (hE.out _ _ _ R1.out hqc).mono ?_
    rintro e w2 ⟨q2, c2, rfl, hc2, hr2, _, _, b⟩
    rw [ends_length, HC.out] at hc2 ⊢
    have B2 := Lib.hid (B1.out.trans (b.mono B1.out.size)); have R2 := Lib.hid hr2
    clear b hr2
    obtain ⟨m, hm⟩ : ∃ m, m = s.size - 1 := ⟨_, rfl⟩
    have m1 : m < s.size := by omega
    have em : (s.size : Int) - 1 = (m : Int) := by omega
    obtain ⟨hB, hhB⟩ : ∃ hB, hB = w2.heap.size := ⟨_, rfl⟩
    have hc0 : colT (bsN s) 0 = [(s[m]'m1).toNat] := by
      unfold colT
      rw [HC.out, ← hm, bsN_getD s m m1]; rfl
    have HL2 : Hid ((w2.alloc (.cells #[.int .u8 ((s[m]'m1).toNat : Int)] 5)).ownsRow hB 5 1 (.slice (some ⟨hB, 0, none⟩) 1 1) (colT (bsN s) 0).length (u8s (colT (bsN s) 0))) := Lib.hid (by
      rw [hc0, hhB]
      exact World.ownsRow_lit (e := 5) (base := w2.heap.size) (size := 1) w2 #[.int .u8 ((s[m]'m1).toNat : Int)] 1 (Nat.le_refl _) (by decide) rfl)
    have HP0 : Hid (primT (bsN s) 0 = 0) := Lib.hid (by unfold primT; have := prim_pos _ HE0.out; rw [if_neg (by omega)])
    have HM := Lib.hid hm
    have HBH := Lib.hid hhB
    clear h0 hm hc0
    go_wp2_with fail
    rw [← hhB]
    clear hhB ht ht2 ht3 em
    go_loopw [7, 8, 30] (fun v pr i wr => ∃ k : Nat, k ≤ s.size ∧ i = .int .i64 k ∧ pr = .int .i64 (primT (bsN s) k : Nat) ∧ wr.ownsRow hB 5 1 v (colT (bsN s) k).length (u8s (colT (bsN s) k)) ∧ Below hB w2 wr) (fun _ _ i _ => s.size - (intOf i).toNat)
    case atStart =>
      exact ⟨0, by omega, rfl, by rw [HP0.out]; rfl, HL2.out, (Below.refl _ _).alloc (by rw [HBH.out]; exact Nat.le_refl _) _⟩
    case round =>
      obtain ⟨k, hk, rfl, rfl, ho, hb⟩ := hrel
      have HO := Lib.hid ho; have HB := Lib.hid hb
      have R3 : Hid (Rd wr q2 (zs (up (ends (bsN s))))) := Lib.hid (R2.out.below (by rw [← HBH.out]; exact hb))
      have hsz := hb.size
      have hsz2 : hB ≤ wr.heap.size := by rw [HBH.out]; exact hsz
      have hcl : (colT (bsN s) k).length ≤ s.size + 1 := by
        unfold colT
        rw [List.length_cons, List.length_map]
        have h1 := List.length_filter_le (fun e => decide (e ≠ 0)) ((ends (bsN s)).take k)
        have h2 := List.length_take_le k (ends (bsN s))
        omega
      clear ho hb hsz
      by_cases hlt : k < s.size
      · obtain ⟨ad, rfl, cx⟩ := rd_z R3.out k (by rw [up_length, ends_length, HC.out]; exact hlt)
        obtain ⟨x, hx⟩ : ∃ x, x = (ends (bsN s)).getD k 0 := ⟨_, rfl⟩
        rw [up_getD _ _ (by rw [ends_length, HC.out]; exact hlt), ← hx] at cx
        have hcs := colT_succ (bsN s) k (by rw [HC.out]; exact hlt)
        have hps := primT_succ (bsN s) HE0.out k (by rw [HC.out]; exact hlt)
        have hxn : x < s.size := by
          rw [← HC.out]
          refine ends_mem.1 ?_
          rw [hx, gd (by rw [ends_length, HC.out]; exact hlt)]
          exact List.getElem_mem _
        rw [← hx] at hcs hps
        have k0 : (0 : Int) ≤ (k : Int) := by omega
        have k1 : (k : Int) < (s.size : Int) := by omega
        clear hx
        by_cases x0 : x = 0
        · rw [if_pos x0] at hcs hps
          have HCS := Lib.hid hcs; have HPS := Lib.hid hps
          subst x0
          clear hcs hps
          go_wp2_with fail
          go_roundw
          case rel => exact ⟨k + 1, by omega, by go_num, by rw [HPS.out]; go_num, by rw [HCS.out]; exact HO.out, HB.out⟩
          case measure => simp [intOf]; omega
        · rw [if_neg x0] at hcs hps
          obtain ⟨y, hy⟩ : ∃ y, y = x - 1 := ⟨_, rfl⟩
          have y1 : y < s.size := by omega
          have ey : (x : Int) - 1 = (y : Int) := by omega
          rw [← hy, bsN_getD s y y1] at hcs
          have HCS := Lib.hid hcs; have HPS := Lib.hid hps
          have tx : ((x : Int) == 0) = false := by rw [beq_eq_false_iff_ne]; omega
          have tx2 : (x == 0) = false := by rw [beq_eq_false_iff_ne]; exact x0
          clear hcs hps hy x0
          go_wp2_with (at_builtin; refine Rw.push rfl _ _ 56 rfl hB 5 i0 (.int .u8 0) 1 1 Tryz.underlying56 hi0 hz0 hz1 hz2 rfl (by decide) _ _ _ rfl HO.out [.int .u8 ((s[y]'y1).toNat : Int)] rfl rfl rfl (by omega) (by omega) hsz2 ?_)
          intro g4 cap4 w4 hown4 _ _ _ hgr
          have H3 : Hid (w4.ownsRow hB 5 1 (.slice (some ⟨g4, 0, none⟩) ((colT (bsN s) k).length + 1) cap4) (colT (bsN s) (k + 1)).length (u8s (colT (bsN s) (k + 1)))) := Lib.hid (by
            rw [HCS.out, u8s_snoc, List.length_append]; exact hown4)
          have H4 := Lib.hid (HB.out.trans hgr)
          clear hown4 hgr
          go_wp2_with fail
          go_roundw
          case rel => exact ⟨k + 1, by omega, by go_num, by rw [HPS.out], H3.out, H4.out⟩
          case measure => simp [intOf]; omega
      · obtain rfl : k = s.size := by omega
        have F1 : Hid (colT (bsN s) s.size = col (bsN s)) := Lib.hid (by have := colT_all (bsN s) HE0.out; rw [HC.out] at this; exact this)
        have F2 : Hid (primT (bsN s) s.size = prim (bsN s)) := Lib.hid (by unfold primT; have := prim_le (bsN s); rw [HC.out] at this; rw [if_pos this])
        have ho2 := HO.out
        rw [F1.out] at ho2
        have hne : 0 < (col (bsN s)).length := by rw [col_length, HC.out]; omega
        have hcn := col_length (bsN s)
        rw [HC.out] at hcn
        rw [hcn] at ho2
        obtain ⟨g, cap, hv⟩ := own_block ho2 (by omega)
        subst hv
        have hby := bytes_of ho2 (by rw [← F1.out]; exact colT_lt (bsN_lt s) _)
        have hbk := Row.run_back hby cap
        rw [List.length_map, hcn] at hbk
        obtain ⟨S, hS⟩ : ∃ S : ByteArray, S = ⟨((col (bsN s)).map UInt8.ofNat).toArray⟩ := ⟨_, rfl⟩
        rw [← hS] at hbk
        have HS : Hid (S = ofN (col (bsN s))) := Lib.hid hS
        have B3 : Hid (Below w.heap.size w wr) := Lib.hid (B2.out.trans (HB.out.mono (by rw [HBH.out]; exact B2.out.size)))
        rw [F2.out]
        clear hS hby ho2 hcn hne
        go_wp2_with fail
        refine bodyPost_ret (v := .tuple #[.string S, .int .i64 (prim (bsN s) : Nat), .int .i64 0]) (by simp [results, Tryz.results20, go_sem]) rfl ?_
        rw [HS.out]
        exact ⟨rfl, B3.out⟩
end Go.Proofs.YtfmnnbeegfjnaaaGreat.Od
