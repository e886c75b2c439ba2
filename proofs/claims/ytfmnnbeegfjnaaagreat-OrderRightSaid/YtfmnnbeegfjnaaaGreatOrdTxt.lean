/- The walk of the document's Text. -/
import Derived.Test.YtfmnnbeegfjnaaaGreatOrdNum
import Derived.Test.YtfmnnbeegfjnaaaGreatBytesRow
import Derived.Test.YtfmnnbeegfjnaaaGreatArr
namespace Go.Proofs.YtfmnnbeegfjnaaaGreat.Od
open Go.RowKit Go.Lib Rw Nm Ls

/-- numbers below 256, as a text -/
def ofN (L : List Nat) : ByteArray := ⟨(L.map UInt8.ofNat).toArray⟩
def toN (L : List UInt8) : List Nat := L.map UInt8.toNat
theorem ofN_toN (L : List UInt8) : ofN (toN L) = ⟨L.toArray⟩ := by
  unfold ofN toN
  rw [List.map_map]
  have : UInt8.ofNat ∘ UInt8.toNat = id := by funext x; simp
  rw [this, List.map_id]
theorem bsN_toN (s : ByteArray) : bsN s = toN s.data.toList := rfl
theorem ofN_bsN (s : ByteArray) : ofN (bsN s) = s := by rw [bsN_toN, ofN_toN]
theorem bsN_getD (s : ByteArray) (k : Nat) (h : k < s.size) : (bsN s).getD k 0 = (s[k]'h).toNat := by rw [gd (by rw [bsN_length]; exact h), bsN_at s k h]
theorem bsN_ofN {L : List Nat} (h : ∀ x ∈ L, x < 256) : bsN (ofN L) = L := by
  unfold bsN ofN
  rw [List.map_map]
  have : ∀ x ∈ L, (UInt8.toNat ∘ UInt8.ofNat) x = x := fun x hx => by simp; have := h x hx; omega
  rw [List.map_congr_left this, List.map_id']
theorem info_u8 : (Tryz.prog.info? 5).map (fun i => (i.zero, i.size, i.bytes)) = some (some (.int .u8 0), 1, 1) := by kernel_rfl
def textI (c : List Nat) (p : Int) : Option (List Nat) := if p < 0 then none else text c p.toNat
def txtE (c : List Nat) (p : Int) : Int := if (textI c p).isSome then 0 else 7
def txtS (c : List Nat) (p : Int) : ByteArray := ofN ((textI c p).getD [])
theorem txt_no {c : List Nat} {p : Int} (h : textI c p = none) : txtS c p = ⟨#[]⟩ ∧ txtE c p = 7 := by unfold txtS txtE; rw [h]; exact ⟨rfl, rfl⟩
theorem txt_yes {c : List Nat} {p : Int} {M : List Nat} (h : textI c p = some M) : txtS c p = ofN M ∧ txtE c p = 0 := by unfold txtS txtE; rw [h]; exact ⟨rfl, rfl⟩
def cntT (c : List Nat) (a i : Nat) : Nat := 1 + (List.range i).countP fun i => decide (c.getD i 0 < c.getD a 0) || (decide (c.getD i 0 = c.getD a 0) && decide (i < a))
theorem cntT_succ (c : List Nat) (a i : Nat) : cntT c a (i + 1) = cntT c a i + if c.getD i 0 < c.getD a 0 ∨ c.getD i 0 = c.getD a 0 ∧ i < a then 1 else 0 := by
  unfold cntT
  rw [List.range_succ, List.countP_append]
  simp only [List.countP_cons, List.countP_nil, Bool.or_eq_true, Bool.and_eq_true, decide_eq_true_eq]
  split <;> simp_all <;> omega
theorem cntT_le (c : List Nat) (a i : Nat) : cntT c a i ≤ i + 1 := by
  unfold cntT
  have := List.countP_le_length (p := fun i => decide (c.getD i 0 < c.getD a 0) || (decide (c.getD i 0 = c.getD a 0) && decide (i < a))) (l := List.range i)
  rw [List.length_range] at this
  omega
theorem textI_big {c : List Nat} {p : Int} (h : p < 1 ∨ (c.length : Int) < p) (h0 : ¬ (c.length = 0 ∧ p = 0)) : textI c p = none := by
  unfold textI
  by_cases hp : p < 0
  · rw [if_pos hp]
  · rw [if_neg hp]; unfold text; rw [if_neg (by omega), if_pos (by omega)]
theorem textI_in {c : List Nat} {p : Nat} (h1 : 1 ≤ p) (h2 : p ≤ c.length) : textI c (p : Int) = textGo c p c.length 0 [] := by
  unfold textI
  rw [if_neg (by omega), Int.toNat_natCast]; unfold text; rw [if_neg (by omega), if_neg (by omega)]
theorem rep_set (k : Nat) (x : UInt8) (L : List UInt8) : (List.replicate (k + 1) 0 ++ L).set k x = List.replicate k 0 ++ x :: L := by
  have e : List.replicate (k + 1) (0 : UInt8) ++ L = List.replicate k 0 ++ 0 :: L := by
    rw [List.replicate_succ', List.append_assoc]; rfl
  rw [e, List.set_append_right _ _ (by simp)]
  simp
theorem made_bytes {w : World} {B g n : Nat} (h : w.ownsRow B 5 1 (.slice (some ⟨g, 0, none⟩) n n) n (List.replicate n (.int .u8 0))) : Row.Bytes w g (List.replicate n 0) := by
  have ha : Arr w B 5 g n (List.replicate n (.int .u8 0)) := h
  refine ⟨ha.lt.2, fun j hj => ?_, fun j _ => ha.free j⟩
  rw [List.length_replicate] at hj
  rw [ha.cell hj]
  simp [List.getD_eq_getElem?_getD, hj]
theorem rtext_no (s : ByteArray) (p : Int) (w : World) (h : 4096 < s.size) :
    Calls Tryz.prog 22 #[.string s, .int .i64 p] w fun e w' => e = .returned (.tuple #[.string ⟨#[]⟩, .int .i64 1]) ∧ Below w.heap.size w w' := by
  have t : decide ((4096 : Int) < (s.size : Int)) = true := decide_eq_true (by omega)
  have t2 : decide (4096 < s.size) = true := decide_eq_true (by omega)
  clear h
  go_enter Tryz.func22, Tryz.ntmps22
  go_wp2_with fail
  refine bodyPost_ret (v := .tuple #[.string ⟨#[]⟩, .int .i64 1]) (by simp [results, Tryz.results22, go_sem]) rfl ?_
  exact ⟨rfl, Below.refl _ _⟩
set_option maxHeartbeats 8000000 in
set_option maxRecDepth 100000 in
theorem rtext_any (s : ByteArray) (p : Int) (w : World) (hl : s.size ≤ 4096) :
    Calls Tryz.prog 22 #[.string s, .int .i64 p] w fun e w' => e = .returned (.tuple #[.string (txtS (bsN s) p), .int .i64 (txtE (bsN s) p)]) ∧ Below w.heap.size w w' := by
  obtain ⟨i0, hi0, hz0, hz1, hz2⟩ := info_parts info_u8
  have t : decide ((4096 : Int) < (s.size : Int)) = false := decide_eq_false (by omega)
  have t2 : decide (4096 < s.size) = false := decide_eq_false (by omega)
  have CL := Lib.hid (bsN_length s)
  obtain ⟨c, hc⟩ : ∃ c, c = bsN s := ⟨_, rfl⟩
  rw [← hc] at CL ⊢
  have HC := Lib.hid hc
  clear hc
  by_cases h00 : s.size = 0 ∧ p = 0
  · obtain ⟨h0, rfl⟩ := h00
    have E := Lib.hid (txt_yes (c := c) (p := 0) (M := []) (by unfold textI text; rw [if_neg (by omega), if_pos ⟨by rw [CL.out]; exact h0, rfl⟩]))
    rw [E.out.1, E.out.2]
    have u : ((s.size : Int) == 0) = true := by rw [beq_iff_eq]; omega
    have u2 : (s.size == 0) = true := by rw [beq_iff_eq]; omega
    clear h0
    go_enter Tryz.func22, Tryz.ntmps22
    go_wp2_with fail
    refine bodyPost_ret (v := .tuple #[.string ⟨#[]⟩, .int .i64 0]) (by simp [results, Tryz.results22, go_sem]) rfl ?_
    exact ⟨rfl, Below.refl _ _⟩
  by_cases hbad : p < 1 ∨ (s.size : Int) < p
  · have E := Lib.hid (txt_no (textI_big (c := c) (by rw [CL.out]; exact hbad) (by rw [CL.out]; exact h00)))
    rw [E.out.1, E.out.2]
    by_cases h0 : s.size = 0
    · have u : ((s.size : Int) == 0) = true := by rw [beq_iff_eq]; omega
      have u2 : (s.size == 0) = true := by rw [beq_iff_eq]; omega
      have u3 : (p == 0) = false := by rw [beq_eq_false_iff_ne]; omega
      by_cases h1 : p < 1
      · have u4 : decide (p < 1) = true := decide_eq_true h1
        clear h0 h1 hbad h00
        go_enter Tryz.func22, Tryz.ntmps22
        go_wp2_with fail
        refine bodyPost_ret (v := .tuple #[.string ⟨#[]⟩, .int .i64 7]) (by simp [results, Tryz.results22, go_sem]) rfl ?_
        exact ⟨rfl, Below.refl _ _⟩
      · have u4 : decide (p < 1) = false := decide_eq_false h1
        have u5 : decide ((s.size : Int) < p) = true := decide_eq_true (by omega)
        clear h0 h1 hbad h00
        go_enter Tryz.func22, Tryz.ntmps22
        go_wp2_with fail
        refine bodyPost_ret (v := .tuple #[.string ⟨#[]⟩, .int .i64 7]) (by simp [results, Tryz.results22, go_sem]) rfl ?_
        exact ⟨rfl, Below.refl _ _⟩
    · have u : ((s.size : Int) == 0) = false := by rw [beq_eq_false_iff_ne]; omega
      have u2 : (s.size == 0) = false := by rw [beq_eq_false_iff_ne]; omega
      by_cases h1 : p < 1
      · have u4 : decide (p < 1) = true := decide_eq_true h1
        clear h0 h1 hbad h00
        go_enter Tryz.func22, Tryz.ntmps22
        go_wp2_with fail
        refine bodyPost_ret (v := .tuple #[.string ⟨#[]⟩, .int .i64 7]) (by simp [results, Tryz.results22, go_sem]) rfl ?_
        exact ⟨rfl, Below.refl _ _⟩
      · have u4 : decide (p < 1) = false := decide_eq_false h1
        have u5 : decide ((s.size : Int) < p) = true := decide_eq_true (by omega)
        clear h0 h1 hbad h00
        go_enter Tryz.func22, Tryz.ntmps22
        go_wp2_with fail
        refine bodyPost_ret (v := .tuple #[.string ⟨#[]⟩, .int .i64 7]) (by simp [results, Tryz.results22, go_sem]) rfl ?_
        exact ⟨rfl, Below.refl _ _⟩
  obtain ⟨q, rfl⟩ : ∃ q : Nat, p = (q : Int) := ⟨p.toNat, by omega⟩
  have q1 : 1 ≤ q := by omega
  have q2 : q ≤ s.size := by omega
  have HT := Lib.hid (textI_in (c := c) q1 (by rw [CL.out]; exact q2))
  rw [CL.out] at HT
  have u : ((s.size : Int) == 0) = false := by rw [beq_eq_false_iff_ne]; omega
  have u2 : (s.size == 0) = false := by rw [beq_eq_false_iff_ne]; omega
  have u3 : decide ((q : Int) < 1) = false := decide_eq_false (by omega)
  have u4 : decide ((s.size : Int) < (q : Int)) = false := decide_eq_false (by omega)
  have u5 : decide (s.size < q) = false := decide_eq_false (by omega)
  have n1 : (0 : Int) ≤ (s.size : Int) - 1 := by omega
  clear h00 hbad
  go_enter Tryz.func22, Tryz.ntmps22
  go_wp2_with (at_make; refine wpList_make_full _ rfl _ _ 56 rfl w.heap.size 5 i0 (.int .u8 0) 1 Tryz.underlying56 hi0 hz0 hz1 .i64 .i64 ↑s.size ↑s.size s.size rfl rfl rfl rfl ?c1 ?c2 ?c3 ?_)
  case c1 => rw [hz2]; omega
  case c2 => unfold maxLen; omega
  case c3 => simp
  intro w1 hown1 hgr1
  have b1 : Below w.heap.size w w1 := (Below.refl _ w).grown hgr1 (Nat.le_refl _) (by simp)
  rw [toList_madeCells_one] at hown1
  have R1 := Lib.hid (made_bytes hown1)
  have B1 := Lib.hid b1
  obtain ⟨g, hg⟩ : ∃ g, g = w.heap.size := ⟨_, rfl⟩
  rw [← hg] at R1 ⊢
  have HG := Lib.hid hg
  clear b1 hown1 hgr1 hg u u2 u3 u4 u5 t t2
  go_wp2_with fail
  go_loopw [8, 9] (fun r i wr => ∃ (k row : Nat) (acc : List UInt8), k ≤ s.size ∧ i = .int .i64 ((k : Int) - 1) ∧ r = .int .i64 row ∧ row ≤ s.size ∧ textGo c q k row (toN acc) = textI c q ∧ acc.length = s.size - k ∧ Row.Bytes wr g (List.replicate k 0 ++ acc) ∧ Below w.heap.size w wr) (fun _ i _ => (intOf i + 1).toNat)
  case atStart => exact ⟨s.size, 0, [], by omega, rfl, rfl, by omega, HT.out.symm, by simp, by simpa using R1.out, B1.out⟩
  case round =>
    obtain ⟨k, row, acc, hk, rfl, rfl, hrow, hgo, hal, hby, hb⟩ := hrel
    have HB := Lib.hid hb; have HBY := Lib.hid hby; have HAL := Lib.hid hal; have HGO := Lib.hid hgo
    clear hb hby hal hgo
    by_cases hk0 : 1 ≤ k
    · obtain ⟨K, rfl⟩ : ∃ K, k = K + 1 := ⟨k - 1, by omega⟩
      have ek : (((K + 1 : Nat) : Int) - 1) = (K : Int) := by omega
      rw [ek]
      have K0 : (0 : Int) ≤ (K : Int) := by omega
      have K1 : (K : Int) < (s.size : Int) := by omega
      by_cases hrq : row = q
      · have E := Lib.hid (txt_no (c := c) (p := (q : Int)) (by rw [← HGO.out]; unfold textGo; rw [if_pos hrq]))
        have t : ((row : Int) == (q : Int)) = true := by rw [beq_iff_eq]; omega
        have t2 : (row == q) = true := by rw [beq_iff_eq]; exact hrq
        clear hrq ek hk0
        go_wp2_with fail
        refine bodyPost_ret (v := .tuple #[.string ⟨#[]⟩, .int .i64 7]) (by simp [results, Tryz.results22, go_sem]) rfl ?_
        rw [E.out.1, E.out.2]
        exact ⟨rfl, HB.out⟩
      have t : ((row : Int) == (q : Int)) = false := by rw [beq_eq_false_iff_ne]; omega
      have t2 : (row == q) = false := by rw [beq_eq_false_iff_ne]; exact hrq
      obtain ⟨a, ha⟩ : ∃ a, a = atOf q row := ⟨_, rfl⟩
      have han : a < s.size := by rw [ha]; unfold atOf; split <;> omega
      have hST : textGo c q K (nextRow c a) (c.getD a 0 :: toN acc) = textI c q := by
        have := HGO.out
        rw [textGo, if_neg hrq, ← ha] at this
        exact this
      have hbyte : c.getD a 0 = (s[a]'han).toNat := by rw [HC.out]; exact bsN_getD s a han
      have HST : Hid (textGo c q K (nextRow c a) (toN (s[a]'han :: acc)) = textI c q) := Lib.hid (by rw [← hST, hbyte]; rfl)
      have HNR : Hid (nextRow c a = cntT c a s.size) := Lib.hid (by unfold nextRow cntT; rw [CL.out])
      have hKl : K < (List.replicate (K + 1) (0 : UInt8) ++ acc).length := by rw [List.length_append, List.length_replicate]; omega
      have hset := HBY.out.set K hKl (s[a]'han)
      rw [rep_set] at hset
      have HS := Lib.hid hset
      have HB2 := Lib.hid (below_put HB.out (a := ⟨g, K, none⟩) (by rw [HG.out]; exact Nat.le_refl _) (.int .u8 ((s[a]'han).toNat : Int)))
      have fK := HBY.out.free K hKl
      have cK := HBY.out.cell K hKl
      obtain ⟨ov, hov⟩ : ∃ ov : Int, ov = ((List.replicate (K + 1) 0 ++ acc).getD K 0).toNat := ⟨_, rfl⟩
      rw [← hov] at cK
      have hw : (decide ((q : Int) < (row : Int)) = true ∧ decide (q < row) = true ∧ (row : Int) - 1 = (a : Int)) ∨ (decide ((q : Int) < (row : Int)) = false ∧ decide (q < row) = false ∧ a = row) := by
        rw [ha]; unfold atOf
        by_cases h : q < row
        · refine .inl ⟨decide_eq_true (by omega), decide_eq_true h, ?_⟩
          rw [if_pos h]; omega
        · refine .inr ⟨decide_eq_false (by omega), decide_eq_false h, ?_⟩
          rw [if_neg h]
      have HAN := Lib.hid han
      have HBYTE := Lib.hid hbyte
      have HLEN : Hid ((s[a]'han :: acc).length = s.size - K) := Lib.hid (by rw [List.length_cons, HAL.out]; omega)
      have a0 : (0 : Int) ≤ (a : Int) := by omega
      have a1 : (a : Int) < (s.size : Int) := by omega
      clear hset hST hbyte ek hk0 hrq ha hov hKl
      rcases hw with ⟨v1, v2, v3⟩ | ⟨v1, v2, rfl⟩
      all_goals
        go_wp2_with fail
        obtain ⟨W, hW⟩ : ∃ W, W = wr.setCell ⟨g, K, none⟩ (.int .u8 ((s[a]'han).toNat : Int)) := ⟨_, rfl⟩
        rw [← hW] at HS HB2 ⊢
        clear hW fK cK t t2 v1 v2
        try clear v3
        go_loopw [11, 12] (fun m i wq => ∃ j z : Nat, j ≤ s.size ∧ i = .int .i64 j ∧ m = .int .i64 (cntT c a j : Nat) ∧ wq = W.drewN z) (fun _ i _ => s.size - (intOf i).toNat)
        case atStart => exact ⟨0, 0, by omega, rfl, rfl, rfl⟩
        case round =>
          obtain ⟨j, z, hj, rfl, rfl, hw⟩ := hrel
          have HW := Lib.hid hw
          clear hw
          by_cases hlt : j < s.size
          · obtain ⟨x, hx⟩ : ∃ x, x = (s[j]'hlt).toNat := ⟨_, rfl⟩
            obtain ⟨y, hy⟩ : ∃ y, y = (s[a]'han).toNat := ⟨_, rfl⟩
            have hsc := cntT_succ c a j
            have hle := cntT_le c a j
            rw [HBYTE.out, ← hy, HC.out, bsN_getD s j hlt, ← hx, ← HC.out] at hsc
            have ex : ((s[j]'hlt).toNat : Int) = (x : Int) := by rw [hx]
            have ey : ((s[a]'han).toNat : Int) = (y : Int) := by rw [hy]
            obtain ⟨m, hm⟩ : ∃ m, m = cntT c a j := ⟨_, rfl⟩
            rw [← hm] at hsc hle ⊢
            have j0 : (0 : Int) ≤ (j : Int) := by omega
            have j1 : (j : Int) < (s.size : Int) := by omega
            clear hx hy hm
            by_cases c1 : x < y
            · rw [if_pos (.inl c1)] at hsc
              have HSC := Lib.hid hsc
              have d1 : decide ((x : Int) < (y : Int)) = true := decide_eq_true (by omega)
              have d2 : decide (x < y) = true := decide_eq_true c1
              clear hsc c1
              go_wp2_with fail
              go_quiet (fail)
              go_wp2_with fail
              go_roundw
              case rel => exact ⟨j + 1, _, by omega, by go_num, by rw [HSC.out]; go_num, by rw [HW.out, World.drewN_drewN]⟩
              case measure => simp [intOf]; omega
            · have d1 : decide ((x : Int) < (y : Int)) = false := decide_eq_false (by omega)
              have d2 : decide (x < y) = false := decide_eq_false c1
              by_cases c2 : x = y
              · have d3 : ((x : Int) == (y : Int)) = true := by rw [beq_iff_eq]; omega
                have d4 : (x == y) = true := by rw [beq_iff_eq]; omega
                by_cases c3 : j < a
                · rw [if_pos (.inr ⟨c2, c3⟩)] at hsc
                  have HSC := Lib.hid hsc
                  have d5 : decide ((j : Int) < (a : Int)) = true := decide_eq_true (by omega)
                  have d6 : decide (j < a) = true := decide_eq_true c3
                  clear hsc c1 c2 c3
                  go_wp2_with fail
                  go_quiet (fail)
                  go_wp2_with fail
                  go_roundw
                  case rel => exact ⟨j + 1, _, by omega, by go_num, by rw [HSC.out]; go_num, by rw [HW.out, World.drewN_drewN]⟩
                  case measure => simp [intOf]; omega
                · rw [if_neg (by omega)] at hsc
                  have HSC := Lib.hid hsc
                  have d5 : decide ((j : Int) < (a : Int)) = false := decide_eq_false (by omega)
                  have d6 : decide (j < a) = false := decide_eq_false c3
                  clear hsc c1 c2 c3
                  go_wp2_with fail
                  go_quiet (fail)
                  go_wp2_with fail
                  go_roundw
                  case rel => exact ⟨j + 1, _, by omega, by go_num, by rw [HSC.out, Nat.add_zero], by rw [HW.out, World.drewN_drewN]⟩
                  case measure => simp [intOf]; omega
              · rw [if_neg (by omega)] at hsc
                have HSC := Lib.hid hsc
                have d3 : ((x : Int) == (y : Int)) = false := by rw [beq_eq_false_iff_ne]; omega
                have d4 : (x == y) = false := by rw [beq_eq_false_iff_ne]; omega
                clear hsc c1 c2
                go_wp2_with fail
                go_quiet (fail)
                go_wp2_with fail
                go_roundw
                case rel => exact ⟨j + 1, _, by omega, by go_num, by rw [HSC.out, Nat.add_zero], by rw [HW.out, World.drewN_drewN]⟩
                case measure => simp [intOf]; omega
          · obtain rfl : j = s.size := by omega
            rw [← HNR.out]
            have HNL : Hid (nextRow c a ≤ s.size) := Lib.hid (by have := (nextRow_le (c := c) (a := a) (by rw [CL.out]; exact HAN.out)).2; rw [CL.out] at this; exact this)
            have F1 : Hid (Row.Bytes wr (g) (List.replicate K 0 ++ s[a]'han :: acc)) := Lib.hid (by rw [HW.out]; exact HS.out.below (below_drewN (Below.refl _ W) z))
            have F2 : Hid (Below w.heap.size w wr) := Lib.hid (by rw [HW.out]; exact below_drewN HB2.out z)
            go_wp2_with fail
            go_roundw
            case rel => exact ⟨K, _, s[a]'han :: acc, by omega, rfl, rfl, HNL.out, HST.out, HLEN.out, F1.out, F2.out⟩
            case measure => simp [intOf]
    · obtain rfl : k = 0 := by omega
      have ek : (((0 : Nat) : Int) - 1) = -1 := by omega
      rw [ek]
      have e0 := HGO.out
      rw [textGo] at e0
      by_cases hrq : row = q
      · have E := Lib.hid (txt_yes (c := c) (p := (q : Int)) (by rw [← e0, if_pos hrq]))
        have hbk := Row.run_back HBY.out s.size
        have hle : (List.replicate 0 (0 : UInt8) ++ acc).length = s.size := by rw [List.length_append, List.length_replicate, HAL.out]; omega
        have hle2 : (⟨(List.replicate 0 (0 : UInt8) ++ acc).toArray⟩ : ByteArray) = ofN (toN acc) := by rw [ofN_toN]; rfl
        rw [hle, hle2] at hbk
        obtain ⟨S, hS⟩ : ∃ S, S = ofN (toN acc) := ⟨_, rfl⟩
        rw [← hS] at hbk
        have HSS := Lib.hid hS
        have t : ((row : Int) != (q : Int)) = false := by rw [bne_eq_false_iff_eq]; omega
        have t2 : (row != q) = false := by rw [bne_eq_false_iff_eq]; exact hrq
        clear hrq ek hk0 e0 hle hle2 hS
        go_wp2_with fail
        refine bodyPost_ret (v := .tuple #[.string S, .int .i64 0]) (by simp [results, Tryz.results22, go_sem]) rfl ?_
        rw [E.out.1, E.out.2, HSS.out]
        exact ⟨rfl, HB.out⟩
      · have E := Lib.hid (txt_no (c := c) (p := (q : Int)) (by rw [← e0, if_neg hrq]))
        have t : ((row : Int) != (q : Int)) = true := by rw [bne_iff_ne]; omega
        have t2 : (row != q) = true := by rw [bne_iff_ne]; exact hrq
        clear hrq ek hk0 e0
        go_wp2_with fail
        refine bodyPost_ret (v := .tuple #[.string ⟨#[]⟩, .int .i64 7]) (by simp [results, Tryz.results22, go_sem]) rfl ?_
        rw [E.out.1, E.out.2]
        exact ⟨rfl, HB.out⟩
end Go.Proofs.YtfmnnbeegfjnaaaGreat.Od
