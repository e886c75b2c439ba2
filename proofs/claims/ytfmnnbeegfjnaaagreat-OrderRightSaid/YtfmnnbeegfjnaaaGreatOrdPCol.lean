/- The walk of order.Column. -/
import Derived.Test.YtfmnnbeegfjnaaaGreatOrdIns
import Derived.Test.YtfmnnbeegfjnaaaGreatOrdCol
import Derived.Test.YtfmnnbeegfjnaaaGreatOrdPComM
import Derived.Test.YtfmnnbeegfjnaaaGreatSrtNB
import Derived.Lib.ConvBytes
import Derived.Lib.BufferRead
namespace Go.Proofs.YtfmnnbeegfjnaaaGreat.Od
open Go.RowKit Go.Lib Rw Ls _root_.Go.Proofs.YtfmnnbeegfjnaaaGreat.Nm

/-- the column's bytes of so many rows, the empty end's row among them -/
def colU (s : List Nat) (k : Nat) : List Nat := (((s.length :: ends s).take k).filter fun e => decide (e ≠ 0)).map fun e => s.getD (e - 1) 0
def primU (s : List Nat) (k : Nat) : Nat := if prim s < k then prim s else 0
theorem colU_succ (s : List Nat) (k : Nat) (hk : k < s.length + 1) : colU s (k + 1) = if (s.length :: ends s).getD k 0 = 0 then colU s k else colU s k ++ [s.getD ((s.length :: ends s).getD k 0 - 1) 0] := by
  have hk2 : k < (s.length :: ends s).length := by rw [List.length_cons, ends_length]; exact hk
  unfold colU
  rw [List.take_succ_eq_append_getElem hk2, List.filter_append, List.map_append, gd hk2]
  by_cases e : (s.length :: ends s)[k] = 0
  · rw [if_pos e, e]; simp
  · rw [if_neg e]; simp [e]
theorem colU_all (s : List Nat) : colU s (s.length + 1) = col s := by
  unfold colU col
  rw [List.take_of_length_le (by rw [List.length_cons, ends_length]; exact Nat.le_refl _)]
  by_cases e : s = []
  · subst e; rw [if_pos rfl]; decide
  · rw [if_neg e]
    have : s.length ≠ 0 := fun h => e (List.eq_nil_of_length_eq_zero h)
    rw [List.filter_cons_of_pos (by simpa using this)]
    rfl
theorem primU_succ (s : List Nat) (k : Nat) (hk : k < s.length + 1) : primU s (k + 1) = if (s.length :: ends s).getD k 0 = 0 then k else primU s k := by
  by_cases e : s = []
  · subst e
    have : k = 0 := by simpa using hk
    subst this
    decide
  · have hp := prim_pos s e
    cases k with
    | zero =>
      have : s.length ≠ 0 := fun h => e (List.eq_nil_of_length_eq_zero h)
      rw [if_neg (by simpa using e)]
      unfold primU; rw [if_neg (by omega), if_neg (by omega)]
    | succ k =>
      have h1 : ∀ j, primU s (j + 1) = primT s j := fun j => by
        unfold primU primT
        by_cases h : prim s ≤ j
        · rw [if_pos h, if_pos (by omega)]
        · rw [if_neg h, if_neg (by omega)]
      have h2 := primT_succ s e k (by omega)
      rw [h1, h1, h2]
      rfl
theorem primU_all (s : List Nat) : primU s (s.length + 1) = prim s := by
  unfold primU; have := prim_le s; rw [if_pos (by omega)]
theorem colU_length (s : List Nat) (k : Nat) : (colU s k).length ≤ s.length + 1 := by
  unfold colU
  rw [List.length_map]
  have h1 := List.length_filter_le (fun e => decide (e ≠ 0)) ((s.length :: ends s).take k)
  have h2 := List.length_take_le' k (s.length :: ends s)
  rw [List.length_cons, ends_length] at h2
  omega
theorem col_lt {s : List Nat} (h : ∀ x ∈ s, x < 256) : ∀ x ∈ col s, x < 256 := by
  intro x hx
  unfold col at hx
  split at hx
  · simp at hx
  · rename_i hs
    obtain ⟨q, hq, rfl⟩ := List.mem_map.1 hx
    rw [List.getD_eq_getElem?_getD]
    cases hi : s[q - 1]? with
    | none => simp
    | some v => exact h v (List.mem_of_getElem? hi)
/-- the bytes of a string, as a new row -/
theorem conv_bytes (w : World) (s : ByteArray) : ∃ (c : Nat) (wb : World), (convert 9 56 (.string s)).run Tryz.prog w = .ok (.slice (some ⟨w.heap.size, 0, none⟩) s.size c) wb ∧ s.size ≤ c ∧ Rd wb (some ⟨w.heap.size, 0, none⟩) (u8s (bsN s)) ∧ Below w.heap.size w wb := by
  refine ⟨_, _, Lib.run_convert_string_bytes (P := Tryz.prog) w 9 56 5 s Tryz.underlying9 Tryz.underlying56 Tryz.underlying5, grownCap_ge _ _ _ _, fun i hi => ?_, rfl, rfl, rfl, by rw [bytesWorld_size]; omega, fun k hk => bytesWorld_at_old w _ s k hk⟩
  have hi2 : i < s.size := by rw [u8s_length, bsN_length] at hi; exact hi
  refine ⟨_, rfl, by rw [bytesWorld_size]; exact Nat.lt_succ_self _, ?_⟩
  rw [Addr.add_lit, Nat.zero_add, bytesWorld_cell w 5 s i hi2]
  have : i < s.data.toList.length := by simpa using hi2
  simp [u8s, bsN, List.getD_eq_getElem?_getD, List.getElem?_map, List.getElem?_eq_getElem this]
theorem esB_toZ (l : List Nat) : StB.es (toZ l) = u8s l := by simp [StB.es, toZ, u8s]
set_option maxHeartbeats 8000000 in
set_option maxRecDepth 100000 in
theorem pcolumn_any (s : ByteArray) (w : World) (hl : s.size ≤ 4096) :
    Calls Tryz.prog 19 #[.string s] w fun e w' => e = .returned (.tuple #[.string (ofN (col (bsN s))), .int .i64 (prim (bsN s)), .int .i64 0]) ∧ Below w.heap.size w w' := by
  obtain ⟨i0, hi0, hz0, hz1, hz2⟩ := info_parts info_u8
  have HC := Lib.hid (bsN_length s)
  have nz : ¬ (4096 : Int) < (s.size : Int) := by omega
  obtain ⟨cb, wb, hcv, hcb, hrb, hbb⟩ := conv_bytes w s
  have C1 := StB.ranks_any (toZ (bsN s)) (some ⟨w.heap.size, 0, none⟩) cb wb (by rw [toZ_length, bsN_length]; omega) (by rw [esB_toZ]; exact hrb)
  rw [toZ_length, bsN_length] at C1
  have H1 := Lib.hid C1; have B0 := Lib.hid hbb
  clear C1 hrb hbb hcb
  go_enter Tryz.func19, Tryz.ntmps19
  go_wp2_with fail
  ((with_reducible refine H1.out.mono ?_); rintro e w1 ⟨q1, c1, R, rfl, hR1, hR2, hR3, hR4, hR5, hR6⟩)
  have hRn : R.length = s.size := by rw [hR1, toZ_length, HC.out]
  have C2 := Lib.hid (sorted_any (bsN s) R q1 c1 s.size w1 HC.out.symm (by omega) hR3 (isR_toZ hR1 hR6))
  have B1 : Hid (Below w.heap.size w w1) := Lib.hid (B0.out.trans (hR4.mono B0.out.size))
  rw [hRn]
  clear hR1 hR2 hR3 hR4 hR5 hR6 H1 hRn hcv B0
  go_wp2_with fail
  ((with_reducible refine C2.out.mono ?_); rintro e w2 ⟨q2, c2, rfl, h1, h2, h3, h4, h5, h6⟩)
  have hel : (ends (bsN s)).length = s.size := by rw [ends_length, HC.out]
  have B2 : Hid (Below w.heap.size w w2) := Lib.hid (B1.out.trans (h6.mono B1.out.size))
  have C3 := Lib.hid (ins0_any (ends (bsN s)) q2 s.size s.size w2.heap.size (w2.alloc (.cells #[.int .i64 (s.size : Nat)] 3)) hel.symm (by omega) h5 (h2.alloc _) (by simp))
  rw [h1, hel]
  clear h1 h2 h3 h4 h5 h6 hel C2 B1
  go_wp2_with fail
  ((with_reducible refine C3.out.mono ?_); rintro e w3 ⟨g3, c3, rfl, h1, h2, h3⟩)
  have R3 := Lib.hid h2
  have B3 : Hid (Below w.heap.size w w3) := Lib.hid ((B2.out.alloc B2.out.size _).trans (h3.mono (by simp; exact Nat.le_trans B2.out.size (Nat.le_succ _))))
  clear h1 h2 h3 C3 B2
  go_wp2_with (at_make; refine wpList_make_own _ rfl _ _ 56 rfl w3.heap.size 5 i0 (.int .u8 0) 1 Tryz.underlying56 hi0 hz0 hz1 .i64 .i64 (s.size : Int) s.size rfl rfl rfl ?c1 ?c2 ?c3 ?_)
  case c1 => rw [hz2]; omega
  case c2 => unfold maxLen; omega
  case c3 => simp
  intro w4 hown4 hgr4
  have b4 : Below w3.heap.size w3 w4 := (Below.refl _ w3).grown hgr4 (Nat.le_refl _) (by simp)
  obtain ⟨hB, hhB⟩ : ∃ hB, hB = w3.heap.size := ⟨_, rfl⟩
  rw [← hhB] at hown4 ⊢
  have HBH := Lib.hid hhB
  have HO4 : Hid (w4.ownsRow hB 5 1 (.slice (some ⟨hB, 0, none⟩) 0 s.size) (colU (bsN s) 0).length (u8s (colU (bsN s) 0))) := Lib.hid hown4
  have HB4 : Hid (Below hB w3 w4) := Lib.hid (by rw [hhB]; exact b4)
  have hcl : (s.size :: ends (bsN s)).length = s.size + 1 := by rw [List.length_cons, ends_length, HC.out]
  have HCL := Lib.hid hcl
  clear hown4 hgr4 b4 hhB hcl
  go_wp2_with fail
  go_loopw [6, 7, 26] (fun v pr i wr => ∃ k : Nat, k ≤ s.size + 1 ∧ i = .int .i64 k ∧ pr = .int .i64 (primU (bsN s) k : Nat) ∧ wr.ownsRow hB 5 1 v (colU (bsN s) k).length (u8s (colU (bsN s) k)) ∧ Below hB w3 wr) (fun _ _ i _ => s.size + 1 - (intOf i).toNat)
  case atStart =>
    exact ⟨0, by omega, rfl, rfl, HO4.out, HB4.out⟩
  case round =>
    clear HO4 HB4
    obtain ⟨k, hk, rfl, rfl, ho, hb⟩ := hrel
    have HO := Lib.hid ho; have HB := Lib.hid hb
    have R4 : Hid (Rd wr (some ⟨g3, 0, none⟩) (zs (up (s.size :: ends (bsN s))))) := Lib.hid (R3.out.below (by rw [← HBH.out]; exact hb))
    have hsz2 : hB ≤ wr.heap.size := by rw [HBH.out]; exact hb.size
    have hcl : (colU (bsN s) k).length ≤ s.size + 1 := by have := colU_length (bsN s) k; rw [HC.out] at this; exact this
    clear ho hb
    by_cases hlt : k < s.size + 1
    · obtain ⟨ad, had, cx⟩ := rd_z R4.out k (by rw [up_length, HCL.out]; exact hlt)
      cases had
      obtain ⟨x, hx⟩ : ∃ x, x = (s.size :: ends (bsN s)).getD k 0 := ⟨_, rfl⟩
      rw [up_getD _ _ (by rw [HCL.out]; exact hlt), ← hx, Addr.add_lit, Nat.zero_add] at cx
      have hcs := colU_succ (bsN s) k (by rw [HC.out]; exact hlt)
      have hps := primU_succ (bsN s) k (by rw [HC.out]; exact hlt)
      rw [HC.out, ← hx] at hcs hps
      have hxn : x ≤ s.size := by
        rw [hx]
        cases k with
        | zero => exact Nat.le_refl _
        | succ k =>
          have h1 : k < (bsN s).length := by rw [HC.out]; omega
          have := ends_lt h1
          rw [HC.out] at this
          exact Nat.le_of_lt this
      have k0 : (0 : Int) ≤ (k : Int) := by omega
      have k1 : (k : Int) < (s.size : Int) + 1 := by omega
      clear hx
      by_cases x0 : x = 0
      · rw [if_pos x0] at hcs hps
        have HCS := Lib.hid hcs; have HPS := Lib.hid hps
        subst x0
        clear hcs hps
        go_wp2_with fail
        go_roundw
        case rel => exact ⟨k + 1, by omega, by go_num, by rw [HPS.out], by rw [HCS.out]; exact HO.out, HB.out⟩
        case measure => simp [intOf]; omega
      · rw [if_neg x0] at hcs hps
        obtain ⟨y, hy⟩ : ∃ y, y = x - 1 := ⟨_, rfl⟩
        have y1 : y < s.size := by omega
        have ey : (x : Int) - 1 = (y : Int) := by omega
        rw [← hy, bsN_getD s y y1] at hcs
        have HCS := Lib.hid hcs; have HPS := Lib.hid hps
        have tx : ((x : Int) == 0) = false := by rw [beq_eq_false_iff_ne]; omega
        have tx2 : (x == 0) = false := by rw [beq_eq_false_iff_ne]; exact x0
        clear hcs hps hy x0
        go_wp2_with (at_builtin; refine Rw.push rfl _ _ 56 rfl hB 5 i0 (.int .u8 0) 1 1 Tryz.underlying56 hi0 hz0 hz1 hz2 rfl (by decide) _ _ _ rfl HO.out [.int .u8 ((s[y]'y1).toNat : Int)] rfl rfl rfl (by omega) (by omega) hsz2 ?_)
        intro g4 cap4 w4 hown4 _ _ _ hgr
        have H3 : Hid (w4.ownsRow hB 5 1 (.slice (some ⟨g4, 0, none⟩) ((colU (bsN s) k).length + 1) cap4) (colU (bsN s) (k + 1)).length (u8s (colU (bsN s) (k + 1)))) := Lib.hid (by
          rw [HCS.out, u8s_snoc, List.length_append]; exact hown4)
        have H4 := Lib.hid (HB.out.trans hgr)
        clear hown4 hgr
        go_wp2_with fail
        go_roundw
        case rel => exact ⟨k + 1, by omega, by go_num, by rw [HPS.out], H3.out, H4.out⟩
        case measure => simp [intOf]; omega
    · obtain rfl : k = s.size + 1 := by omega
      have F1 : Hid (colU (bsN s) (s.size + 1) = col (bsN s)) := Lib.hid (by have := colU_all (bsN s); rw [HC.out] at this; exact this)
      have F2 : Hid (primU (bsN s) (s.size + 1) = prim (bsN s)) := Lib.hid (by have := primU_all (bsN s); rw [HC.out] at this; exact this)
      have ho2 := HO.out
      have hcn := col_length (bsN s)
      rw [HC.out] at hcn
      have B5 : Hid (Below w.heap.size w wr) := Lib.hid (B3.out.trans (HB.out.mono (by rw [HBH.out]; exact B3.out.size)))
      rw [F1.out, hcn] at ho2
      rw [F2.out]
      rcases ho2.2 with ⟨rfl, hz⟩ | ⟨g, cap, cur, rfl, _⟩
      · have hbk0 := Lib.run_convert_nil_bytes (P := Tryz.prog) wr 56 9 5 0 Tryz.underlying56 Tryz.underlying5 Tryz.underlying9
        have hce : col (bsN s) = [] := List.eq_nil_of_length_eq_zero (by rw [hcn]; exact hz)
        have HE : Hid (ofN (col (bsN s)) = ⟨#[]⟩) := Lib.hid (by rw [hce]; rfl)
        rw [hz] at ho2
        clear ho2 hcn hce
        go_wp2_with fail
        refine bodyPost_ret (v := .tuple #[.string ⟨#[]⟩, .int .i64 (prim (bsN s) : Nat), .int .i64 0]) (by simp [results, Tryz.results19, go_sem]) rfl ?_
        rw [HE.out]
        exact ⟨rfl, B5.out⟩
      · have hby := bytes_of ho2 (by intro x hx; exact col_lt (bsN_lt s) x hx)
        have hbk := Row.run_back hby cap
        rw [List.length_map, hcn] at hbk
        obtain ⟨S, hS⟩ : ∃ S : ByteArray, S = ⟨((col (bsN s)).map UInt8.ofNat).toArray⟩ := ⟨_, rfl⟩
        rw [← hS] at hbk
        have HS : Hid (S = ofN (col (bsN s))) := Lib.hid hS
        clear hS hby ho2 hcn
        go_wp2_with fail
        refine bodyPost_ret (v := .tuple #[.string S, .int .i64 (prim (bsN s) : Nat), .int .i64 0]) (by simp [results, Tryz.results19, go_sem]) rfl ?_
        rw [HS.out]
        exact ⟨rfl, B5.out⟩
theorem pcolumn_no (s : ByteArray) (w : World) (h : 4096 < s.size) (hl : s.size ≤ 1000000000) :
    Calls Tryz.prog 19 #[.string s] w fun e w' => e = .returned (.tuple #[.string ⟨#[]⟩, .int .i64 0, .int .i64 1]) ∧ Below w.heap.size w w' := by
  have nz : (4096 : Int) < (s.size : Int) := by omega
  go_enter Tryz.func19, Tryz.ntmps19
  go_wp2_with fail
  refine bodyPost_ret (v := .tuple #[.string ⟨#[]⟩, .int .i64 0, .int .i64 1]) (by simp [results, Tryz.results19, go_sem]) rfl ?_
  exact ⟨rfl, Below.refl _ _⟩
end Go.Proofs.YtfmnnbeegfjnaaaGreat.Od
