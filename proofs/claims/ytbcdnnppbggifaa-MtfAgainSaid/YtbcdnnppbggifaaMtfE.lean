/- The program's each: Move and Back. -/
import Derived.Test.YtbcdnnppbggifaaMtfR
import Derived.Deep.RegionHeld3
namespace Go.Proofs.Ytbcdnnppbggifaa.Mt
open Go.RowKit Go.Lib Rw Nm Ls Od

theorem read_any (s : ByteArray) (w : World) :
    Calls Try.prog 23 #[.string s] w fun e w' => e = .returned (.tuple #[.agg (u8s (if Row 256 (bsN s) then bsN s else zero256)).toArray, .int .i64 (rowE (bsN s))]) ∧ Below w.heap.size w w' := by
  by_cases hs : s.size = 256
  · exact read_in s w hs
  · have hno : ¬ Row 256 (bsN s) := fun h => hs (by rw [← bsN_length]; exact h.1)
    rw [rowE_no hno, if_neg hno]
    exact read_no s w hs
/-- the first k are done -/
def mix (A : List Nat) (s : ByteArray) (k : Nat) : List UInt8 := A.map UInt8.ofNat ++ s.data.toList.drop k
theorem data_length (s : ByteArray) : s.data.toList.length = s.size := (Lib.size_eq s).symm
theorem mix_length {A : List Nat} {s : ByteArray} {k : Nat} (hA : A.length = k) (hk : k ≤ s.size) : (mix A s k).length = s.size := by
  unfold mix; rw [List.length_append, List.length_map, List.length_drop, data_length, hA]; omega
theorem data_at (s : ByteArray) {k : Nat} (hk : k < s.size) : ((s.data.toList.getD k 0).toNat : Int) = ((bsN s).getD k 0 : Nat) := by
  have h : k < s.data.toList.length := by rw [data_length]; exact hk
  rw [bsN_getD s k hk, List.getD_eq_getElem?_getD, List.getElem?_eq_getElem h]; rfl
theorem mix_at {A : List Nat} {s : ByteArray} {k : Nat} (hA : A.length = k) (hk : k < s.size) : (((mix A s k).getD k 0).toNat : Int) = ((bsN s).getD k 0 : Nat) := by
  rw [← data_at s hk]
  unfold mix
  rw [List.getD_eq_getElem?_getD, List.getElem?_append_right (by simp [hA]), List.getD_eq_getElem?_getD]
  simp [hA]
theorem mix_set {A : List Nat} {s : ByteArray} {k d : Nat} (hA : A.length = k) (hk : k < s.size) : (mix A s k).set k (UInt8.ofNat d) = mix (A ++ [d]) s (k + 1) := by
  unfold mix
  have h : k < s.data.toList.length := by rw [data_length]; exact hk
  rw [List.set_append_right _ _ (by simp [hA]), List.length_map, hA, Nat.sub_self, List.drop_eq_getElem_cons h]
  simp
theorem mix_end (A : List Nat) (s : ByteArray) : mix A s s.size = A.map UInt8.ofNat := by
  unfold mix
  rw [List.drop_of_length_le (by rw [data_length]; exact Nat.le_refl _), List.append_nil]
theorem bytes_only {g m : Nat} {w w' : World} {l : List UInt8} (h : Row.Bytes w m l) (ho : Only g w w') (hg : m ≠ g) : Row.Bytes w' m l :=
  ⟨by rw [ho.size]; exact h.lt, fun j hj => by rw [World.cell?_of_block (w := w) (ho.block m hg)]; exact h.cell j hj, fun j hj => by rw [World.frozen?_of_block (w := w) (ho.block m hg)]; exact h.free j hj⟩
set_option maxHeartbeats 4000000 in
set_option maxRecDepth 100000 in
theorem each_mv (r s : ByteArray) (w : World) :
    Calls Try.prog 18 #[.string r, .string s, .func (.func 19) #[] #[]] w (MvP w (out2 mv (bsN r) (bsN s))) := by
  have CR := Lib.hid (fun W => read_any r W)
  by_cases hr : Row 256 (bsN r)
  case neg =>
    have F : Hid (rowE (bsN r) = 2 ∧ out2 mv (bsN r) (bsN s) = (⟨#[]⟩, ⟨#[]⟩, 2) ∧ (if Row 256 (bsN r) then bsN r else zero256) = zero256) := Lib.hid ⟨rowE_no hr, by unfold out2; rw [if_neg hr], if_neg hr⟩
    clear hr
    obtain ⟨XL, hXL⟩ : ∃ XL, XL = u8s zero256 := ⟨_, rfl⟩
    have xl : XL.length = 256 := by rw [hXL, u8s_length]; rfl
    have HXL := Lib.hid hXL
    have ST : Hid (∀ W : World, (storeCells ⟨W.heap.size, 0, none⟩ XL).run Try.prog (W.alloc (.cells XL.toArray 41)) = .ok () (W.alloc (.cells XL.toArray 41))) := Lib.hid (fun W => by
      have h : Blk (W.alloc (.cells XL.toArray 41)) W.heap.size 41 XL := heap_alloc_new W _
      have e := h.stores (ys := XL) rfl (by rw [hXL]; exact u8s_one _)
      rw [h.self] at e
      exact e)
    have z1 := zv_line
    rw [← hXL] at z1
    clear hXL
    go_enter Try.func18, Try.ntmps18
    go_wp2_with fail
    refine (CR.out _).mono ?_
    rintro e w1 ⟨rfl, hb1⟩
    rw [F.out.1, F.out.2.2, ← HXL.out]
    have B1 := Lib.hid hb1
    have st := ST.out w1
    have b2 := Lib.hid (hb1.trans (((Below.refl w1.heap.size w1).alloc (Nat.le_refl _) (.cells XL.toArray 41)).mono hb1.size))
    clear hb1
    go_wp2_with fail
    refine bodyPost_ret (v := .tuple #[.string ⟨#[]⟩, .string ⟨#[]⟩, .int .i64 2]) (by simp [results, Try.results18, go_sem]) rfl ?_
    exact mvp_mk F.out.2.1 b2.out
  have HR := Lib.hid hr
  have F : Hid (rowE (bsN r) = 0 ∧ (if Row 256 (bsN r) then bsN r else zero256) = bsN r) := Lib.hid ⟨rowE_yes hr, if_pos hr⟩
  obtain ⟨R, hR⟩ : ∃ R, R = bsN r := ⟨_, rfl⟩
  have HRR := Lib.hid hR
  have hRl : R.length = 256 := by rw [hR]; exact hr.1
  obtain ⟨XL, hXL⟩ : ∃ XL, XL = u8s R := ⟨_, rfl⟩
  have xl : XL.length = 256 := by rw [hXL, u8s_length]; exact hRl
  have HXL := Lib.hid hXL
  have HN : Hid (∀ W : World, Ln (W.alloc (.cells XL.toArray 41)) W.heap.size R) := Lib.hid (fun W => by rw [hXL]; exact heap_alloc_new W _)
  have ST : Hid (∀ W : World, (storeCells ⟨W.heap.size, 0, none⟩ XL).run Try.prog (W.alloc (.cells XL.toArray 41)) = .ok () (W.alloc (.cells XL.toArray 41))) := Lib.hid (fun W => by
    have h : Blk (W.alloc (.cells XL.toArray 41)) W.heap.size 41 XL := heap_alloc_new W _
    have e := h.stores (ys := XL) rfl (by rw [hXL]; exact u8s_one _)
    rw [h.self] at e
    exact e)
  have SZ : Hid (∀ (W : World) (V : Array Value), V.size = 256 → (storeCells ⟨W.heap.size, 0, none⟩ XL).run Try.prog (W.alloc (.cells V 41)) = .ok () ((W.alloc (.cells V 41)).setRow W.heap.size XL.toArray)) := Lib.hid (fun W V hV => by
    have h : Blk (W.alloc (.cells V 41)) W.heap.size 41 V.toList := by unfold Blk; rw [Array.toArray_toList]; exact heap_alloc_new W _
    exact h.stores (ys := XL) (by rw [xl, Array.length_toList, hV]) (by rw [hXL]; exact u8s_one _))
  have z1 := zv_line
  have vz : (u8s zero256).toArray.size = 256 := Ln.size _
  generalize (u8s zero256).toArray = VZ at z1 vz
  rw [← hR]
  clear hXL hRl hr hR
  go_enter Try.func18, Try.ntmps18
  go_wp2_with fail
  refine (CR.out _).mono ?_
  rintro e w1 ⟨rfl, hb1⟩
  rw [F.out.1, F.out.2, ← HRR.out, ← HXL.out]
  have sz := SZ.out w1 VZ vz
  obtain ⟨g, hg⟩ : ∃ g, g = w1.heap.size := ⟨_, rfl⟩
  obtain ⟨w2, hw2⟩ : ∃ w2, w2 = (w1.alloc (.cells VZ 41)).setRow w1.heap.size XL.toArray := ⟨_, rfl⟩
  rw [← hw2] at sz
  have N2 : Ln w2 g R := by rw [hw2, hg, HXL.out]; exact setRow_heap _ _ _ _ _ _ (heap_alloc_new w1 _)
  have B2 : Below g w1 w2 := by
    have o : Only g (w1.alloc (.cells VZ 41)) w2 := by rw [hw2, hg]; exact (Only.refl _ _).setRow _
    exact ((Below.refl g w1).alloc (by omega) _).trans (o.below (Nat.le_refl _))
  have Z2 : w2.heap.size = g + 1 := by rw [hw2, hg]; simp [World.setRow]
  have B2w : Below w.heap.size w w2 := hb1.trans (B2.mono (by rw [hg]; exact hb1.size))
  have G0 : w.heap.size ≤ g := by rw [hg]; exact hb1.size
  rw [← hg] at sz
  have HG := Lib.hid hg
  have hgs : w1.heap.size = g := hg.symm
  clear hw2 hb1 hg
  by_cases hs : 65536 < s.size
  case pos =>
    have F2 : Hid (out2 mv R (bsN s) = (⟨#[]⟩, ⟨#[]⟩, 1)) := Lib.hid (by unfold out2; rw [if_pos (by rw [HRR.out]; exact HR.out), if_neg (by rw [bsN_length]; omega)])
    have t1 : decide ((65536 : Int) < (s.size : Int)) = true := decide_eq_true (by omega)
    have t2 : decide (65536 < s.size) = true := decide_eq_true hs
    have B2h := Lib.hid B2w
    clear hs B2w B2 N2
    go_wp2_with fail
    refine bodyPost_ret (v := .tuple #[.string ⟨#[]⟩, .string ⟨#[]⟩, .int .i64 1]) (by simp [results, Try.results18, go_sem]) rfl ?_
    exact mvp_mk F2.out B2h.out
  case neg =>
    have t1 : decide ((65536 : Int) < (s.size : Int)) = false := decide_eq_false (by omega)
    have t2 : decide (65536 < s.size) = false := decide_eq_false hs
    have hs2 : s.size ≤ 65536 := by omega
    have F2 : Hid (out2 mv R (bsN s) = (ofN (mv R (bsN s)).1, ofN (mv R (bsN s)).2, 0)) := Lib.hid (by unfold out2; rw [if_pos (by rw [HRR.out]; exact HR.out), if_pos (by rw [bsN_length]; exact hs2)])
    have HSL := Lib.hid (bsN_length s)
    have HSB := Lib.hid (bsN_lt s)
    have hmk := Row.run_make w2 s
    have hby := Row.madeOf_bytes w2 s
    have hbl := Row.madeOf_below w2 s
    have hms := Row.madeOf_size w2 s
    generalize Row.madeOf w2 s = w3 at hmk hby hbl hms
    generalize grownCap w2 s.size 0 5 = cap at hmk
    rw [Z2] at hmk hby hbl hms
    have N3 := N2.below hbl (by omega)
    have B3 := B2w.trans (hbl.mono (by omega))
    obtain ⟨m, hm⟩ : ∃ m, m = g + 1 := ⟨_, rfl⟩
    rw [← hm] at hmk hby
    have HM := Lib.hid hm
    have HN3 := Lib.hid N3; have HB3 := Lib.hid B3; have HBY := Lib.hid hby
    clear hs N2 B2 B2w hby hbl hms N3 B3 hm
    go_wp2_with fail
    have HRw := HR.out
    rw [← HRR.out] at HRw
    have HRow := Lib.hid HRw
    clear HRw
    go_loopw [33] (fun i wr => ∃ k : Nat, k ≤ s.size ∧ i = .int .i64 k ∧ Hid (Ln wr g (mv R ((bsN s).take k)).2) ∧ Hid (Row.Bytes wr m (mix (mv R ((bsN s).take k)).1 s k)) ∧ Hid (Below w.heap.size w wr)) (fun i _ => s.size - (RowKit.intOf i).toNat)
    case atStart => exact ⟨0, by omega, rfl, HN3, by rw [List.take_zero]; exact HBY, HB3⟩
    case round =>
      clear HN3 HBY HB3
      obtain ⟨k, hk, rfl, hn, hy, hb⟩ := hrel
      have ml : (mix (mv R ((bsN s).take k)).1 s k).length = s.size := mix_length (by rw [mv_length, List.length_take, HSL.out]; omega) hk
      by_cases hlt : k < s.size
      · have k0 : (0 : Int) ≤ (k : Int) := by omega
        have k1 : (k : Int) < (s.size : Int) := by omega
        obtain ⟨x, hx⟩ : ∃ x, x = (bsN s).getD k 0 := ⟨_, rfl⟩
        have hkl : k < (bsN s).length := by rw [HSL.out]; exact hlt
        have hxb : x < 256 := by rw [hx, gd hkl]; exact HSB.out _ (List.getElem_mem _)
        have hrow : Row 256 (mv R ((bsN s).take k)).2 := mv_row _ _ HRow.out fun c hc => HSB.out c (List.mem_of_mem_take hc)
        have hts := take_snoc (s := bsN s) (k := k) hkl
        have hsn := mv_snoc R ((bsN s).take k) x
        rw [← hx] at hts
        rw [← hts] at hsn
        have cy := hy.out.cell k (by rw [ml]; exact hlt)
        rw [mix_at (by rw [mv_length, List.length_take, HSL.out]; omega) hlt, ← hx] at cy
        have mlh := Lib.hid ml
        clear hx hts ml
        obtain ⟨A, hA⟩ : ∃ A, A = (mv R ((bsN s).take k)).1 := ⟨_, rfl⟩
        obtain ⟨M, hM⟩ : ∃ M, M = (mv R ((bsN s).take k)).2 := ⟨_, rfl⟩
        have hAl : A.length = k := by rw [hA, mv_length, List.length_take, HSL.out]; omega
        rw [← hA] at hsn hy mlh
        rw [← hM] at hn hrow hsn
        obtain ⟨d, hd⟩ : ∃ d, d = M.idxOf x := ⟨_, rfl⟩
        have hdb : d < 256 := by rw [hd]; exact idx_lt hrow hxb
        rw [← hd] at hsn
        have HC := Lib.hid (fronts_any g x M wr hrow hxb hn.out)
        rw [← hd] at HC
        have HS := Lib.hid hsn; have HA := Lib.hid hAl; have HY := hy; have HB := hb
        clear hA hM hsn hAl hd hn hrow hy hb
        go_wp2_with fail
        refine HC.out.mono ?_
        rintro e w5 ⟨rfl, hn5, ho5⟩
        have mg : m ≠ g := by have := HM.out; omega
        have hy5 := bytes_only HY.out ho5 mg
        have hb5 := HB.out.trans (ho5.below G0)
        have cY := hy5.cell k (by rw [mlh.out]; exact hlt)
        have fY := hy5.free k (by rw [mlh.out]; exact hlt)
        have S6 := hy5.set k (by rw [mlh.out]; exact hlt) (UInt8.ofNat d)
        have e8 : ((UInt8.ofNat d).toNat : Int) = (d : Int) := by simp; omega
        have hs1 : (mv R ((bsN s).take (k + 1))).1 = A ++ [d] := by rw [HS.out]
        have hs2x : (mv R ((bsN s).take (k + 1))).2 = front M d := by rw [HS.out]
        rw [e8, mix_set HA.out hlt, ← hs1] at S6
        have S7 : Ln (w5.setCell ⟨m, k, none⟩ (.int .u8 (d : Int))) g (mv R ((bsN s).take (k + 1))).2 := by
          rw [hs2x]
          exact (Below.heap_setCell _ _ _ _ (Ne.symm mg)).trans hn5
        have H1 := Lib.hid S6; have H2 := Lib.hid S7
        have H3 := Lib.hid (below_put hb5 (a := ⟨m, k, none⟩) (by have := HM.out; show w.heap.size ≤ m; omega) (.int .u8 (d : Int)))
        generalize ((mix A s k).getD k 0).toNat = ov at cY
        clear S6 S7 hn5 ho5 hy5 hb5 mg e8 hs1 hs2x
        go_wp2_with fail
        go_roundw
        case rel => exact ⟨k + 1, by omega, by go_num, H2, H1, H3⟩
        case measure => simp [RowKit.intOf]; omega
      · obtain rfl : k = s.size := by omega
        have HF : Hid ((bsN s).take s.size = bsN s) := Lib.hid (List.take_of_length_le (by rw [HSL.out]; exact Nat.le_refl _))
        rw [HF.out] at hn hy
        rw [mix_end] at hy
        have hrow : Row 256 (mv R (bsN s)).2 := mv_row _ _ HRow.out HSB.out
        obtain ⟨M, hM⟩ : ∃ M, M = (mv R (bsN s)).2 := ⟨_, rfl⟩
        obtain ⟨A, hA⟩ : ∃ A, A = (mv R (bsN s)).1 := ⟨_, rfl⟩
        have hAl : A.length = s.size := by rw [hA, mv_length, HSL.out]
        rw [← hM, ← hA] at F2
        rw [← hM] at hn hrow
        rw [← hA] at hy
        obtain ⟨XM, hXM⟩ : ∃ XM, XM = u8s M := ⟨_, rfl⟩
        have hu41 := Try.underlying41
        have hi41 : (Try.prog.info? 41).map (·.size) = some XM.length := by rw [hXM, u8s_length, hrow.1]; kernel_rfl
        have HT := Lib.hid (fun W => text_any M W hrow)
        obtain ⟨BB, hBB⟩ : ∃ BB : World → Prop, BB = fun W => Row.Bytes W m (A.map UInt8.ofNat) ∧ Ln W g M ∧ Below w.heap.size w W := ⟨_, rfl⟩
        have h0 : BB wr := by rw [hBB]; exact ⟨hy.out, hn.out, hb.out⟩
        have hE : ∀ W, BB W → Below w.heap.size w W := by rw [hBB]; exact fun W h => h.2.2
        have hL : ∀ W W', BB W → Below W.heap.size W W' → BB W' := by
          rw [hBB]
          exact fun W W' h hb' => ⟨h.1.below hb', h.2.1.below hb' h.2.1.lt, h.2.2.trans (hb'.mono h.2.2.size)⟩
        have hD : ∀ W, BB W → BB W.drew := by rw [hBB]; exact fun W h => ⟨h.1.drew, h.2.1.drew, h.2.2.drew⟩
        have hK1 : ∀ W, BB W → (convert 37 9 (.slice (some ⟨m, 0, none⟩) s.size cap)).run Try.prog W = .ok (.string (ofN A)) W := by
          rw [hBB]
          intro W h
          have := Row.run_back h.1 cap
          rw [List.length_map, hAl] at this
          exact this
        have hK2 : ∀ W, BB W → W.rangeAt g 0 XM := by
          rw [hBB, hXM]
          intro W h j v hj
          have hj2 : j < M.length := by have := (List.getElem?_eq_some_iff.1 hj).1; rwa [u8s_length] at this
          rw [u8s_getD M j hj2] at hj
          cases hj
          rw [Nat.zero_add]
          exact h.2.1.cell hj2
        rw [← hXM] at HT
        have H0 := Lib.hid h0; have HE := Lib.hid hE; have HL := Lib.hid hL; have HD := Lib.hid hD; have HK1 := Lib.hid hK1; have HK2 := Lib.hid hK2
        clear h0 hE hL hD hK1 hK2 hBB hXM hM hA hn hy hb hrow hAl
        go_wp2_with fail
        go_region_held3 (fun W => BB W ∧ (convert 37 9 (.slice (some ⟨m, 0, none⟩) s.size cap)).run Try.prog W = .ok (.string (ofN A)) W ∧ W.rangeAt g 0 XM) (refine ⟨?_, HK1.out _ ?_, HK2.out _ ?_⟩ <;> repeat (first | exact H0.out | assumption | apply HD.out)) (first | (go_at_call 24; ((with_reducible refine (HT.out _).mono ?_)); rintro e w' ⟨rfl, hb'⟩; have hw := HL.out _ _ (by repeat (first | exact H0.out | assumption | apply HD.out)) hb'; clear hb'))
        all_goals go_wp2_with fail
        all_goals refine bodyPost_ret (v := .tuple #[.string (ofN A), .string (ofN M), .int .i64 0]) (by simp [results, Try.results18, go_sem]) rfl ?_
        all_goals exact mvp_mk F2.out (HE.out _ (by repeat (first | exact H0.out | assumption | apply HD.out)))
set_option maxHeartbeats 4000000 in
set_option maxRecDepth 100000 in
theorem each_bk (r s : ByteArray) (w : World) :
    Calls Try.prog 18 #[.string r, .string s, .func (.func 22) #[] #[]] w (MvP w (out2 bk (bsN r) (bsN s))) := by
  have CR := Lib.hid (fun W => read_any r W)
  by_cases hr : Row 256 (bsN r)
  case neg =>
    have F : Hid (rowE (bsN r) = 2 ∧ out2 bk (bsN r) (bsN s) = (⟨#[]⟩, ⟨#[]⟩, 2) ∧ (if Row 256 (bsN r) then bsN r else zero256) = zero256) := Lib.hid ⟨rowE_no hr, by unfold out2; rw [if_neg hr], if_neg hr⟩
    clear hr
    obtain ⟨XL, hXL⟩ : ∃ XL, XL = u8s zero256 := ⟨_, rfl⟩
    have xl : XL.length = 256 := by rw [hXL, u8s_length]; rfl
    have HXL := Lib.hid hXL
    have ST : Hid (∀ W : World, (storeCells ⟨W.heap.size, 0, none⟩ XL).run Try.prog (W.alloc (.cells XL.toArray 41)) = .ok () (W.alloc (.cells XL.toArray 41))) := Lib.hid (fun W => by
      have h : Blk (W.alloc (.cells XL.toArray 41)) W.heap.size 41 XL := heap_alloc_new W _
      have e := h.stores (ys := XL) rfl (by rw [hXL]; exact u8s_one _)
      rw [h.self] at e
      exact e)
    have z1 := zv_line
    rw [← hXL] at z1
    clear hXL
    go_enter Try.func18, Try.ntmps18
    go_wp2_with fail
    refine (CR.out _).mono ?_
    rintro e w1 ⟨rfl, hb1⟩
    rw [F.out.1, F.out.2.2, ← HXL.out]
    have B1 := Lib.hid hb1
    have st := ST.out w1
    have b2 := Lib.hid (hb1.trans (((Below.refl w1.heap.size w1).alloc (Nat.le_refl _) (.cells XL.toArray 41)).mono hb1.size))
    clear hb1
    go_wp2_with fail
    refine bodyPost_ret (v := .tuple #[.string ⟨#[]⟩, .string ⟨#[]⟩, .int .i64 2]) (by simp [results, Try.results18, go_sem]) rfl ?_
    exact mvp_mk F.out.2.1 b2.out
  have HR := Lib.hid hr
  have F : Hid (rowE (bsN r) = 0 ∧ (if Row 256 (bsN r) then bsN r else zero256) = bsN r) := Lib.hid ⟨rowE_yes hr, if_pos hr⟩
  obtain ⟨R, hR⟩ : ∃ R, R = bsN r := ⟨_, rfl⟩
  have HRR := Lib.hid hR
  have hRl : R.length = 256 := by rw [hR]; exact hr.1
  obtain ⟨XL, hXL⟩ : ∃ XL, XL = u8s R := ⟨_, rfl⟩
  have xl : XL.length = 256 := by rw [hXL, u8s_length]; exact hRl
  have HXL := Lib.hid hXL
  have HN : Hid (∀ W : World, Ln (W.alloc (.cells XL.toArray 41)) W.heap.size R) := Lib.hid (fun W => by rw [hXL]; exact heap_alloc_new W _)
  have ST : Hid (∀ W : World, (storeCells ⟨W.heap.size, 0, none⟩ XL).run Try.prog (W.alloc (.cells XL.toArray 41)) = .ok () (W.alloc (.cells XL.toArray 41))) := Lib.hid (fun W => by
    have h : Blk (W.alloc (.cells XL.toArray 41)) W.heap.size 41 XL := heap_alloc_new W _
    have e := h.stores (ys := XL) rfl (by rw [hXL]; exact u8s_one _)
    rw [h.self] at e
    exact e)
  have SZ : Hid (∀ (W : World) (V : Array Value), V.size = 256 → (storeCells ⟨W.heap.size, 0, none⟩ XL).run Try.prog (W.alloc (.cells V 41)) = .ok () ((W.alloc (.cells V 41)).setRow W.heap.size XL.toArray)) := Lib.hid (fun W V hV => by
    have h : Blk (W.alloc (.cells V 41)) W.heap.size 41 V.toList := by unfold Blk; rw [Array.toArray_toList]; exact heap_alloc_new W _
    exact h.stores (ys := XL) (by rw [xl, Array.length_toList, hV]) (by rw [hXL]; exact u8s_one _))
  have z1 := zv_line
  have vz : (u8s zero256).toArray.size = 256 := Ln.size _
  generalize (u8s zero256).toArray = VZ at z1 vz
  rw [← hR]
  clear hXL hRl hr hR
  go_enter Try.func18, Try.ntmps18
  go_wp2_with fail
  refine (CR.out _).mono ?_
  rintro e w1 ⟨rfl, hb1⟩
  rw [F.out.1, F.out.2, ← HRR.out, ← HXL.out]
  have sz := SZ.out w1 VZ vz
  obtain ⟨g, hg⟩ : ∃ g, g = w1.heap.size := ⟨_, rfl⟩
  obtain ⟨w2, hw2⟩ : ∃ w2, w2 = (w1.alloc (.cells VZ 41)).setRow w1.heap.size XL.toArray := ⟨_, rfl⟩
  rw [← hw2] at sz
  have N2 : Ln w2 g R := by rw [hw2, hg, HXL.out]; exact setRow_heap _ _ _ _ _ _ (heap_alloc_new w1 _)
  have B2 : Below g w1 w2 := by
    have o : Only g (w1.alloc (.cells VZ 41)) w2 := by rw [hw2, hg]; exact (Only.refl _ _).setRow _
    exact ((Below.refl g w1).alloc (by omega) _).trans (o.below (Nat.le_refl _))
  have Z2 : w2.heap.size = g + 1 := by rw [hw2, hg]; simp [World.setRow]
  have B2w : Below w.heap.size w w2 := hb1.trans (B2.mono (by rw [hg]; exact hb1.size))
  have G0 : w.heap.size ≤ g := by rw [hg]; exact hb1.size
  rw [← hg] at sz
  have HG := Lib.hid hg
  have hgs : w1.heap.size = g := hg.symm
  clear hw2 hb1 hg
  by_cases hs : 65536 < s.size
  case pos =>
    have F2 : Hid (out2 bk R (bsN s) = (⟨#[]⟩, ⟨#[]⟩, 1)) := Lib.hid (by unfold out2; rw [if_pos (by rw [HRR.out]; exact HR.out), if_neg (by rw [bsN_length]; omega)])
    have t1 : decide ((65536 : Int) < (s.size : Int)) = true := decide_eq_true (by omega)
    have t2 : decide (65536 < s.size) = true := decide_eq_true hs
    have B2h := Lib.hid B2w
    clear hs B2w B2 N2
    go_wp2_with fail
    refine bodyPost_ret (v := .tuple #[.string ⟨#[]⟩, .string ⟨#[]⟩, .int .i64 1]) (by simp [results, Try.results18, go_sem]) rfl ?_
    exact mvp_mk F2.out B2h.out
  case neg =>
    have t1 : decide ((65536 : Int) < (s.size : Int)) = false := decide_eq_false (by omega)
    have t2 : decide (65536 < s.size) = false := decide_eq_false hs
    have hs2 : s.size ≤ 65536 := by omega
    have F2 : Hid (out2 bk R (bsN s) = (ofN (bk R (bsN s)).1, ofN (bk R (bsN s)).2, 0)) := Lib.hid (by unfold out2; rw [if_pos (by rw [HRR.out]; exact HR.out), if_pos (by rw [bsN_length]; exact hs2)])
    have HSL := Lib.hid (bsN_length s)
    have HSB := Lib.hid (bsN_lt s)
    have hmk := Row.run_make w2 s
    have hby := Row.madeOf_bytes w2 s
    have hbl := Row.madeOf_below w2 s
    have hms := Row.madeOf_size w2 s
    generalize Row.madeOf w2 s = w3 at hmk hby hbl hms
    generalize grownCap w2 s.size 0 5 = cap at hmk
    rw [Z2] at hmk hby hbl hms
    have N3 := N2.below hbl (by omega)
    have B3 := B2w.trans (hbl.mono (by omega))
    obtain ⟨m, hm⟩ : ∃ m, m = g + 1 := ⟨_, rfl⟩
    rw [← hm] at hmk hby
    have HM := Lib.hid hm
    have HN3 := Lib.hid N3; have HB3 := Lib.hid B3; have HBY := Lib.hid hby
    clear hs N2 B2 B2w hby hbl hms N3 B3 hm
    go_wp2_with fail
    have HRw := HR.out
    rw [← HRR.out] at HRw
    have HRow := Lib.hid HRw
    clear HRw
    go_loopw [33] (fun i wr => ∃ k : Nat, k ≤ s.size ∧ i = .int .i64 k ∧ Hid (Ln wr g (bk R ((bsN s).take k)).2) ∧ Hid (Row.Bytes wr m (mix (bk R ((bsN s).take k)).1 s k)) ∧ Hid (Below w.heap.size w wr)) (fun i _ => s.size - (RowKit.intOf i).toNat)
    case atStart => exact ⟨0, by omega, rfl, HN3, by rw [List.take_zero]; exact HBY, HB3⟩
    case round =>
      clear HN3 HBY HB3
      obtain ⟨k, hk, rfl, hn, hy, hb⟩ := hrel
      have ml : (mix (bk R ((bsN s).take k)).1 s k).length = s.size := mix_length (by rw [bk_length, List.length_take, HSL.out]; omega) hk
      by_cases hlt : k < s.size
      · have k0 : (0 : Int) ≤ (k : Int) := by omega
        have k1 : (k : Int) < (s.size : Int) := by omega
        obtain ⟨x, hx⟩ : ∃ x, x = (bsN s).getD k 0 := ⟨_, rfl⟩
        have hkl : k < (bsN s).length := by rw [HSL.out]; exact hlt
        have hxb : x < 256 := by rw [hx, gd hkl]; exact HSB.out _ (List.getElem_mem _)
        have hrow : Row 256 (bk R ((bsN s).take k)).2 := bk_row _ _ HRow.out fun c hc => HSB.out c (List.mem_of_mem_take hc)
        have hts := take_snoc (s := bsN s) (k := k) hkl
        have hsn := bk_snoc R ((bsN s).take k) x
        rw [← hx] at hts
        rw [← hts] at hsn
        have cy := hy.out.cell k (by rw [ml]; exact hlt)
        rw [mix_at (by rw [bk_length, List.length_take, HSL.out]; omega) hlt, ← hx] at cy
        have mlh := Lib.hid ml
        clear hx hts ml
        obtain ⟨A, hA⟩ : ∃ A, A = (bk R ((bsN s).take k)).1 := ⟨_, rfl⟩
        obtain ⟨M, hM⟩ : ∃ M, M = (bk R ((bsN s).take k)).2 := ⟨_, rfl⟩
        have hAl : A.length = k := by rw [hA, bk_length, List.length_take, HSL.out]; omega
        rw [← hA] at hsn hy mlh
        rw [← hM] at hn hrow hsn
        obtain ⟨d, hd⟩ : ∃ d, d = M.getD x 0 := ⟨_, rfl⟩
        have hdb : d < 256 := by rw [hd]; exact at_lt hrow hxb
        rw [← hd] at hsn
        have HC := Lib.hid (take_any g x M wr hrow.1 hxb hn.out)
        rw [← hd] at HC
        have HS := Lib.hid hsn; have HA := Lib.hid hAl; have HY := hy; have HB := hb
        clear hA hM hsn hAl hd hn hrow hy hb
        go_wp2_with fail
        refine HC.out.mono ?_
        rintro e w5 ⟨rfl, hn5, ho5⟩
        have mg : m ≠ g := by have := HM.out; omega
        have hy5 := bytes_only HY.out ho5 mg
        have hb5 := HB.out.trans (ho5.below G0)
        have cY := hy5.cell k (by rw [mlh.out]; exact hlt)
        have fY := hy5.free k (by rw [mlh.out]; exact hlt)
        have S6 := hy5.set k (by rw [mlh.out]; exact hlt) (UInt8.ofNat d)
        have e8 : ((UInt8.ofNat d).toNat : Int) = (d : Int) := by simp; omega
        have hs1 : (bk R ((bsN s).take (k + 1))).1 = A ++ [d] := by rw [HS.out]
        have hs2x : (bk R ((bsN s).take (k + 1))).2 = front M x := by rw [HS.out]
        rw [e8, mix_set HA.out hlt, ← hs1] at S6
        have S7 : Ln (w5.setCell ⟨m, k, none⟩ (.int .u8 (d : Int))) g (bk R ((bsN s).take (k + 1))).2 := by
          rw [hs2x]
          exact (Below.heap_setCell _ _ _ _ (Ne.symm mg)).trans hn5
        have H1 := Lib.hid S6; have H2 := Lib.hid S7
        have H3 := Lib.hid (below_put hb5 (a := ⟨m, k, none⟩) (by have := HM.out; show w.heap.size ≤ m; omega) (.int .u8 (d : Int)))
        generalize ((mix A s k).getD k 0).toNat = ov at cY
        clear S6 S7 hn5 ho5 hy5 hb5 mg e8 hs1 hs2x
        go_wp2_with fail
        go_roundw
        case rel => exact ⟨k + 1, by omega, by go_num, H2, H1, H3⟩
        case measure => simp [RowKit.intOf]; omega
      · obtain rfl : k = s.size := by omega
        have HF : Hid ((bsN s).take s.size = bsN s) := Lib.hid (List.take_of_length_le (by rw [HSL.out]; exact Nat.le_refl _))
        rw [HF.out] at hn hy
        rw [mix_end] at hy
        have hrow : Row 256 (bk R (bsN s)).2 := bk_row _ _ HRow.out HSB.out
        obtain ⟨M, hM⟩ : ∃ M, M = (bk R (bsN s)).2 := ⟨_, rfl⟩
        obtain ⟨A, hA⟩ : ∃ A, A = (bk R (bsN s)).1 := ⟨_, rfl⟩
        have hAl : A.length = s.size := by rw [hA, bk_length, HSL.out]
        rw [← hM, ← hA] at F2
        rw [← hM] at hn hrow
        rw [← hA] at hy
        obtain ⟨XM, hXM⟩ : ∃ XM, XM = u8s M := ⟨_, rfl⟩
        have hu41 := Try.underlying41
        have hi41 : (Try.prog.info? 41).map (·.size) = some XM.length := by rw [hXM, u8s_length, hrow.1]; kernel_rfl
        have HT := Lib.hid (fun W => text_any M W hrow)
        obtain ⟨BB, hBB⟩ : ∃ BB : World → Prop, BB = fun W => Row.Bytes W m (A.map UInt8.ofNat) ∧ Ln W g M ∧ Below w.heap.size w W := ⟨_, rfl⟩
        have h0 : BB wr := by rw [hBB]; exact ⟨hy.out, hn.out, hb.out⟩
        have hE : ∀ W, BB W → Below w.heap.size w W := by rw [hBB]; exact fun W h => h.2.2
        have hL : ∀ W W', BB W → Below W.heap.size W W' → BB W' := by
          rw [hBB]
          exact fun W W' h hb' => ⟨h.1.below hb', h.2.1.below hb' h.2.1.lt, h.2.2.trans (hb'.mono h.2.2.size)⟩
        have hD : ∀ W, BB W → BB W.drew := by rw [hBB]; exact fun W h => ⟨h.1.drew, h.2.1.drew, h.2.2.drew⟩
        have hK1 : ∀ W, BB W → (convert 37 9 (.slice (some ⟨m, 0, none⟩) s.size cap)).run Try.prog W = .ok (.string (ofN A)) W := by
          rw [hBB]
          intro W h
          have := Row.run_back h.1 cap
          rw [List.length_map, hAl] at this
          exact this
        have hK2 : ∀ W, BB W → W.rangeAt g 0 XM := by
          rw [hBB, hXM]
          intro W h j v hj
          have hj2 : j < M.length := by have := (List.getElem?_eq_some_iff.1 hj).1; rwa [u8s_length] at this
          rw [u8s_getD M j hj2] at hj
          cases hj
          rw [Nat.zero_add]
          exact h.2.1.cell hj2
        rw [← hXM] at HT
        have H0 := Lib.hid h0; have HE := Lib.hid hE; have HL := Lib.hid hL; have HD := Lib.hid hD; have HK1 := Lib.hid hK1; have HK2 := Lib.hid hK2
        clear h0 hE hL hD hK1 hK2 hBB hXM hM hA hn hy hb hrow hAl
        go_wp2_with fail
        go_region_held3 (fun W => BB W ∧ (convert 37 9 (.slice (some ⟨m, 0, none⟩) s.size cap)).run Try.prog W = .ok (.string (ofN A)) W ∧ W.rangeAt g 0 XM) (refine ⟨?_, HK1.out _ ?_, HK2.out _ ?_⟩ <;> repeat (first | exact H0.out | assumption | apply HD.out)) (first | (go_at_call 24; ((with_reducible refine (HT.out _).mono ?_)); rintro e w' ⟨rfl, hb'⟩; have hw := HL.out _ _ (by repeat (first | exact H0.out | assumption | apply HD.out)) hb'; clear hb'))
        all_goals go_wp2_with fail
        all_goals refine bodyPost_ret (v := .tuple #[.string (ofN A), .string (ofN M), .int .i64 0]) (by simp [results, Try.results18, go_sem]) rfl ?_
        all_goals exact mvp_mk F2.out (HE.out _ (by repeat (first | exact H0.out | assumption | apply HD.out)))
end Go.Proofs.Ytbcdnnppbggifaa.Mt
