/- The walks of package mtf's functions: Check, Fresh, Front, Move, Back. -/
import Derived.Test.YtbcdnnppbggifaaMtfE
namespace Go.Proofs.Ytbcdnnppbggifaa.Mt
open Go.RowKit Go.Lib Rw Nm Ls Od

theorem pmv_any (r s : ByteArray) (w : World) :
    Calls Try.prog 7 #[.string r, .string s] w (MvP w (out2 mv (bsN r) (bsN s))) := by
  have H := Lib.hid (each_mv r s w)
  go_enter Try.func7, Try.ntmps7
  go_wp2_with fail
  refine H.out.mono ?_
  rintro e w1 ⟨rfl, b⟩
  have B := Lib.hid b
  clear b
  go_wp2_with fail
  refine bodyPost_ret (v := .tuple #[.string _, .string _, .int .i64 _]) (by simp [results, Try.results7, go_sem]; exact ⟨rfl, rfl, rfl⟩) rfl ?_
  exact ⟨rfl, B.out⟩
theorem pbk_any (r s : ByteArray) (w : World) :
    Calls Try.prog 9 #[.string r, .string s] w (MvP w (out2 bk (bsN r) (bsN s))) := by
  have H := Lib.hid (each_bk r s w)
  go_enter Try.func9, Try.ntmps9
  go_wp2_with fail
  refine H.out.mono ?_
  rintro e w1 ⟨rfl, b⟩
  have B := Lib.hid b
  clear b
  go_wp2_with fail
  refine bodyPost_ret (v := .tuple #[.string _, .string _, .int .i64 _]) (by simp [results, Try.results9, go_sem]; exact ⟨rfl, rfl, rfl⟩) rfl ?_
  exact ⟨rfl, B.out⟩
/-- a variable of a line that is made and at once laid -/
theorem laid_line (XL : List Value) (xl : XL.length = 256) (h1 : ∀ v ∈ XL, v.oneCell' = true) (W : World) (V : Array Value) (hV : V.size = 256) :
    (storeCells ⟨W.heap.size, 0, none⟩ XL).run Try.prog (W.alloc (.cells V 41)) = .ok () ((W.alloc (.cells V 41)).setRow W.heap.size XL.toArray) ∧
    Below W.heap.size W ((W.alloc (.cells V 41)).setRow W.heap.size XL.toArray) := by
  have h : Blk (W.alloc (.cells V 41)) W.heap.size 41 V.toList := by unfold Blk; rw [Array.toArray_toList]; exact heap_alloc_new W _
  refine ⟨h.stores (ys := XL) (by rw [xl, Array.length_toList, hV]) h1, ?_⟩
  exact ((Below.refl _ W).alloc (Nat.le_refl _) _).trans (((Only.refl _ _).setRow _).below (Nat.le_refl _))
set_option maxRecDepth 100000 in
theorem pcheckr_any (s : ByteArray) (w : World) :
    Calls Try.prog 14 #[.string s] w fun e w' => e = .returned (.int .i64 (rowE (bsN s))) ∧ Below w.heap.size w w' := by
  have H := Lib.hid (read_any s w)
  obtain ⟨XL, hXL⟩ : ∃ XL, XL = u8s (if Row 256 (bsN s) then bsN s else zero256) := ⟨_, rfl⟩
  have xl : XL.length = 256 := by
    rw [hXL, u8s_length]
    by_cases hr : Row 256 (bsN s)
    · rw [if_pos hr]; exact hr.1
    · rw [if_neg hr]; rfl
  have h1 : ∀ v ∈ XL, v.oneCell' = true := by rw [hXL]; exact u8s_one _
  rw [← hXL] at H
  have z1 := zv_line
  have vz : (u8s zero256).toArray.size = 256 := Ln.size _
  generalize (u8s zero256).toArray = VZ at z1 vz
  have LD := Lib.hid (fun W => laid_line XL xl h1 W VZ vz)
  clear hXL h1
  go_enter Try.func14, Try.ntmps14
  go_wp2_with fail
  refine H.out.mono ?_
  rintro e w1 ⟨rfl, b⟩
  have st := (LD.out w1).1
  have B := Lib.hid (b.trans ((LD.out w1).2.mono b.size))
  clear b
  go_wp2_with fail
  go_ret
  exact ⟨rfl, B.out⟩
def prt (k : Nat) : List Nat := List.range k ++ List.replicate (256 - k) 0
theorem prt_length (k : Nat) (h : k ≤ 256) : (prt k).length = 256 := by simp [prt]; omega
theorem prt_succ (k : Nat) (h : k < 256) : (prt k).set k k = prt (k + 1) := by
  unfold prt
  rw [show 256 - k = (256 - (k + 1)) + 1 by omega, List.replicate_succ, List.set_append_right _ _ (by simp)]
  simp [List.range_succ]
set_option maxRecDepth 100000 in
theorem pfresh_any (w : World) :
    Calls Try.prog 16 #[] w fun e w' => e = .returned (.string freshB) ∧ Below w.heap.size w w' := by
  have z1 := zv_line
  have vz : (u8s zero256).length = 256 := by rw [u8s_length]; rfl
  obtain ⟨w1, hw1⟩ : ∃ w1, w1 = (w.alloc (.cells (u8s zero256).toArray 41)).setRow w.heap.size (u8s zero256).toArray := ⟨_, rfl⟩
  have ld := laid_line (u8s zero256) vz (u8s_one _) w (u8s zero256).toArray (by rw [List.size_toArray]; exact vz)
  rw [← hw1] at ld
  have st := ld.1
  have B1 := Lib.hid ld.2
  have N1 : Hid (Ln w1 w.heap.size (prt 0)) := Lib.hid (by rw [hw1]; exact setRow_heap _ _ _ _ _ _ (heap_alloc_new w _))
  have HT := Lib.hid (fun W => text_any freshL W fresh_row)
  obtain ⟨XZ, hXZ⟩ : ∃ XZ, XZ = u8s zero256 := ⟨_, rfl⟩
  rw [← hXZ] at z1 st vz
  obtain ⟨g, hg⟩ : ∃ g, g = w.heap.size := ⟨_, rfl⟩
  rw [← hg] at N1 B1 st
  have hgs : w.heap.size = g := hg.symm
  have HG := Lib.hid hg
  clear hw1 hXZ ld hg
  go_enter Try.func16, Try.ntmps16
  go_wp2_with fail
  go_loopw [4] (fun i wr => ∃ k : Nat, k ≤ 256 ∧ i = .int .i64 k ∧ Hid (Ln wr g (prt k)) ∧ Hid (Below g w wr)) (fun i _ => 256 - (RowKit.intOf i).toNat)
  case atStart => exact ⟨0, by omega, rfl, N1, B1⟩
  case round =>
    clear N1 B1 st
    obtain ⟨k, hk, rfl, hn, hb⟩ := hrel
    by_cases hlt : k < 256
    · have t1 : decide ((k : Int) < 256) = true := decide_eq_true (by omega)
      have t2 : decide (k < 256) = true := decide_eq_true hlt
      have k0 : (0 : Int) ≤ (k : Int) := by omega
      have k1 : (k : Int) < 256 := by omega
      have ew : IntKind.u8.wrap (k : Int) = (k : Int) := IntWalk.u8_in _ (by omega)
      have cK := hn.out.cell (k := k) (by rw [prt_length k hk]; exact hlt)
      have fK := hn.out.free k
      have S6 := hn.out.set (k := k) k
      rw [prt_succ k hlt] at S6
      have H1 := Lib.hid S6
      have H2 := Lib.hid (below_put hb.out (a := ⟨g, k, none⟩) (Nat.le_refl _) (.int .u8 (k : Int)))
      generalize (prt k).getD k 0 = ov at cK
      clear S6 hn hb
      go_wp2_with fail
      go_roundw
      case rel => exact ⟨k + 1, by omega, by go_num, H1, H2⟩
      case measure => simp [RowKit.intOf]; omega
    · obtain rfl : k = 256 := by omega
      have e1 : prt 256 = freshL := by simp [prt, freshL]
      rw [e1] at hn
      have hh : wr.heap[g]? = some (.cells (u8s freshL).toArray 41 (0, 0)) := hn.out
      have HH := Lib.hid hh
      have HIR : Hid ((Try.prog.info? 41).map (·.size) = some (u8s freshL).toArray.size) := Lib.hid (by rw [Ln.size, fresh_row.1]; kernel_rfl)
      obtain ⟨V, hV⟩ : ∃ V, V = (u8s freshL).toArray := ⟨_, rfl⟩
      rw [← hV] at HT HH HIR
      clear hV hh hn e1
      go_wp2_with (refine wpList_load_row rfl 41 (.tmp 1) rfl g rfl 41 V (0, 0) _ HH.out Try.underlying41 rfl HIR.out ?_)
      refine (HT.out _).mono ?_
      rintro e w5 ⟨rfl, hb5⟩
      have H5 : Hid (Below g w w5) := Lib.hid (hb.out.trans (hb5.mono hb.out.size |>.mono (by rw [hgs]; exact Nat.le_refl _)))
      clear hb5
      go_wp2_with fail
      go_ret
      exact ⟨rfl, by first | exact H5.out | (rw [← HG.out]; exact H5.out)⟩
set_option maxRecDepth 100000 in
theorem pfrontf_any (s : ByteArray) (c : Nat) (w : World) (hc : c < 256) :
    Calls Try.prog 11 #[.string s, .int .u8 (c : Int)] w fun e w' => e = .returned (.tuple #[.string (frS (bsN s) c), .int .i64 (frI (bsN s) c : Nat), .int .i64 (rowE (bsN s))]) ∧ Below w.heap.size w w' := by
  obtain ⟨C, hC⟩ : ∃ C : ByteArray, C = ⟨([UInt8.ofNat c] : List UInt8).toArray⟩ := ⟨_, rfl⟩
  have hbk := run_convert_bytes_back (P := Try.prog) (w.alloc (.cells #[.int .u8 (c : Int)] 5)) 37 9 5 ⟨w.heap.size, 0, none⟩ 1 [UInt8.ofNat c] Try.underlying37 Try.underlying5 Try.underlying9 (fun j hj => by
    obtain rfl : j = 0 := by simpa using hj
    have e : ((⟨w.heap.size, 0, none⟩ : Addr).add 0) = ⟨w.heap.size, 0, none⟩ := by simp [Addr.add]
    rw [e, cell_of_row _ _ 0 _ _ (0, 0) (heap_alloc_new w _)]
    simp; omega)
  rw [← hC] at hbk
  have hbC : bsN C = [c] := by rw [hC]; simp [bsN]; omega
  have HB : Hid (Below w.heap.size w (w.alloc (.cells #[.int .u8 (c : Int)] 5))) := Lib.hid ((Below.refl _ w).alloc (Nat.le_refl _) _)
  have HM := Lib.hid (fun W => pmv_any s C W)
  have HO : Hid (out2 mv (bsN s) (bsN C) = if Row 256 (bsN s) then (ofN [(bsN s).idxOf c], ofN (front (bsN s) ((bsN s).idxOf c)), 0) else (⟨#[]⟩, ⟨#[]⟩, 2)) := Lib.hid (by
    rw [hbC]; unfold out2
    simp [mv])
  simp only [List.length_cons, List.length_nil, Nat.zero_add] at hbk
  clear hC hbC
  by_cases hr : Row 256 (bsN s)
  · have hq := idx_lt hr hc
    have F : Hid (rowE (bsN s) = 0 ∧ frS (bsN s) c = ofN (front (bsN s) ((bsN s).idxOf c)) ∧ frI (bsN s) c = (bsN s).idxOf c ∧ out2 mv (bsN s) (bsN C) = (ofN [(bsN s).idxOf c], ofN (front (bsN s) ((bsN s).idxOf c)), 0)) :=
      Lib.hid ⟨rowE_yes hr, by unfold frS; rw [if_pos hr], by unfold frI; rw [if_pos hr], by rw [HO.out, if_pos hr]⟩
    rw [F.out.1, F.out.2.1, F.out.2.2.1]
    generalize (bsN s).idxOf c = q at F hq ⊢
    have hsz : (ofN [q]).size = 1 := rfl
    have hat : ((ofN [q])[0]'(by rw [hsz]; omega)).toNat = q := by
      show (UInt8.ofNat q).toNat = q
      simp; omega
    have ew : IntKind.i64.wrap (q : Int) = (q : Int) := IntWalk.i64_in _ (by omega)
    have F2 := Lib.hid F.out.2.2.2
    clear HO hr F
    generalize front (bsN s) q = M at F2 ⊢
    generalize ofN [q] = D at F2 hsz hat
    go_enter Try.func11, Try.ntmps11
    go_wp2_with fail
    refine (HM.out _).mono ?_
    rintro e w1 ⟨rfl, hb1⟩
    rw [F2.out]
    have B1 := Lib.hid (HB.out.trans (hb1.mono HB.out.size))
    clear hb1
    go_wp2_with fail
    go_quiet (fail)
    go_wp2_with fail
    refine bodyPost_ret (v := .tuple #[.string (ofN M), .int .i64 (q : Int), .int .i64 0]) (by simp [results, Try.results11, go_sem]) rfl ?_
    exact ⟨rfl, below_drewN B1.out _⟩
  · have F : Hid (rowE (bsN s) = 2 ∧ frS (bsN s) c = ⟨#[]⟩ ∧ frI (bsN s) c = 0 ∧ out2 mv (bsN s) (bsN C) = (⟨#[]⟩, ⟨#[]⟩, 2)) :=
      Lib.hid ⟨rowE_no hr, by unfold frS; rw [if_neg hr], by unfold frI; rw [if_neg hr], by rw [HO.out, if_neg hr]⟩
    rw [F.out.1, F.out.2.1, F.out.2.2.1]
    have F2 := Lib.hid F.out.2.2.2
    clear HO hr F
    go_enter Try.func11, Try.ntmps11
    go_wp2_with fail
    refine (HM.out _).mono ?_
    rintro e w1 ⟨rfl, hb1⟩
    rw [F2.out]
    have B1 := Lib.hid (HB.out.trans (hb1.mono HB.out.size))
    clear hb1
    go_wp2_with fail
    refine bodyPost_ret (v := .tuple #[.string ⟨#[]⟩, .int .i64 0, .int .i64 2]) (by simp [results, Try.results11, go_sem]) rfl ?_
    exact ⟨rfl, B1.out⟩
end Go.Proofs.Ytbcdnnppbggifaa.Mt
