/- The program's read: a text as a line. -/
import Derived.Test.YtbcdnnppbggifaaMtfW
namespace Go.Proofs.Ytbcdnnppbggifaa.Mt
open Go.RowKit Go.Lib Rw Nm Ls Od

def zero256 : List Nat := List.replicate 256 0
theorem zv_of {t : TypeId} {z : Value} (h : (Try.prog.info? t).map (·.zero) = some (some z)) (w : World) : (zeroValue t).run Try.prog w = .ok z w := by
  cases hq : Try.prog.info? t with
  | none => simp [hq] at h
  | some i =>
    have hz : i.zero = some z := by simpa [hq] using h
    simp [zeroValue, typeInfo, hq, hz]
set_option maxRecDepth 100000 in
theorem zv_line (w : World) : (zeroValue 41).run Try.prog w = .ok (.agg (u8s zero256).toArray) w := zv_of (by kernel_rfl) w
set_option maxRecDepth 100000 in
theorem zv_seen (w : World) : (zeroValue 45).run Try.prog w = .ok (.agg (bls (List.replicate 256 false)).toArray) w := zv_of (by kernel_rfl) w
set_option maxRecDepth 100000 in
theorem built_line : Try.prog.built 41 [] = some (u8s zero256).toArray := by kernel_rfl
set_option maxRecDepth 100000 in
theorem built_seen : Try.prog.built 45 [] = some (bls (List.replicate 256 false)).toArray := by kernel_rfl
set_option maxRecDepth 100000 in
theorem read_no (s : ByteArray) (w : World) (hs : s.size ≠ 256) :
    Calls Try.prog 23 #[.string s] w fun e w' => e = .returned (.tuple #[.agg (u8s zero256).toArray, .int .i64 2]) ∧ Below w.heap.size w w' := by
  have u : ((s.size : Int) == 256) = false := by rw [beq_eq_false_iff_ne]; omega
  have u2 : (s.size == 256) = false := by rw [beq_eq_false_iff_ne]; exact hs
  have u3 : ((s.size : Int) != 256) = true := by rw [bne_iff_ne]; omega
  have u4 : (s.size != 256) = true := by rw [bne_iff_ne]; exact hs
  have z1 := zv_line
  have hb := fun W => run_build (P := Try.prog) W 41 #[] _ built_line
  have hn : Ln (w.alloc (.cells (u8s zero256).toArray 41)) w.heap.size zero256 := heap_alloc_new w _
  have hst := hn.stores (M := zero256) rfl
  have hself : (w.alloc (.cells (u8s zero256).toArray 41)).setRow w.heap.size (u8s zero256).toArray = w.alloc (.cells (u8s zero256).toArray 41) := setRow_self _ _ _ _ _ hn
  rw [hself] at hst
  have HB : Hid (Below w.heap.size w (w.alloc (.cells (u8s zero256).toArray 41))) := Lib.hid ((Below.refl _ w).alloc (Nat.le_refl _) _)
  have HV : Hid ((u8s zero256).toArray.size = 256) := Lib.hid (Ln.size _)
  have HN : Hid ((w.alloc (.cells (u8s zero256).toArray 41)).heap[w.heap.size]? = some (.cells (u8s zero256).toArray 41 (0, 0))) := Lib.hid hn
  generalize (u8s zero256).toArray = V at *
  clear hn hself
  go_enter Try.func23, Try.ntmps23
  go_wp2_with fail
  refine bodyPost_ret (v := .tuple #[.agg V, .int .i64 2]) ?_ rfl ⟨rfl, HB.out⟩
  rw [results_cell_tmp rfl]
  have hl := run_loadVar_row (P := Try.prog) _ w.heap.size 41 41 V (0, 0) _ HN.out Try.underlying41 rfl (by rw [HV.out]; kernel_rfl)
  simp [asAddr, hl]
theorem pigeon : ∀ (n : Nat) (L : List Nat), L.Nodup → (∀ x ∈ L, x < n) → L.length ≤ n
  | 0, L, _, h => by
    cases L with
    | nil => exact Nat.le_refl _
    | cons x _ => exact absurd (h x (List.mem_cons_self ..)) (by omega)
  | n + 1, L, hn, h => by
    by_cases hm : n ∈ L
    · have := pigeon n (L.erase n) (hn.erase n) (fun x hx => by
        have h1 := h x (List.mem_of_mem_erase hx)
        have h2 : x ≠ n := fun e => by subst e; exact (List.Nodup.not_mem_erase hn) hx
        omega)
      rw [List.length_erase_of_mem hm] at this
      omega
    · have := pigeon n L hn (fun x hx => by
        have h1 := h x hx
        have h2 : x ≠ n := fun e => hm (e ▸ hx)
        omega)
      omega
theorem row_of_nodup {n : Nat} {L : List Nat} (hl : L.length = n) (hn : L.Nodup) (h : ∀ x ∈ L, x < n) : Row n L := by
  refine ⟨hl, fun c hc => ?_⟩
  by_cases hm : c ∈ L
  · exact hm
  · have := pigeon n (c :: L) (List.nodup_cons.2 ⟨hm, hn⟩) (fun x hx => by
      rcases List.mem_cons.1 hx with rfl | hx
      · exact hc
      · exact h x hx)
    simp at this
    omega
/-- block g is these cells -/
def Blk (w : World) (g : Nat) (t : TypeId) (xs : List Value) : Prop := w.heap[g]? = some (.cells xs.toArray t (0, 0))
section
variable {w w' : World} {g B : Nat} {t : TypeId} {xs : List Value}
theorem Blk.lt (h : Blk w g t xs) : g < w.heap.size := (Array.getElem?_eq_some_iff.1 h).1
theorem Blk.cell (h : Blk w g t xs) {k : Nat} {v : Value} (hk : xs[k]? = some v) : w.cell? ⟨g, k, none⟩ = some v := by
  rw [cell_of_row _ _ k _ _ (0, 0) h]
  simpa using hk
theorem Blk.free (h : Blk w g t xs) (k : Nat) : w.frozen? ⟨g, k, none⟩ = false := by unfold World.frozen?; rw [h]; simp
theorem Blk.below (h : Blk w g t xs) (hb : Below B w w') (hg : g < B) : Blk w' g t xs := (hb.block g hg).trans h
theorem Blk.only {g' : Nat} (h : Blk w g t xs) (hb : Only g' w w') (hg : g ≠ g') : Blk w' g t xs := (hb.block g hg).trans h
theorem Blk.other (h : Blk w g t xs) {a : Addr} (hg : g ≠ a.block) (v : Value) : Blk (w.setCell a v) g t xs := (Below.heap_setCell _ _ _ _ hg).trans h
theorem Blk.set (h : Blk w g t xs) (k : Nat) (v : Value) : Blk (w.setCell ⟨g, k, none⟩ v) g t (xs.set k v) := by
  unfold Blk
  rw [setCell_eq_setRow w g k _ _ (0, 0) _ h, setRow_heap w g _ _ _ _ h]
  congr 2
  apply Array.ext'
  simp
theorem Blk.row (h : Blk w g t xs) (ys : List Value) : Blk (w.setRow g ys.toArray) g t ys := setRow_heap w g _ _ _ _ h
theorem Blk.stores (h : Blk w g t xs) {ys : List Value} (hl : ys.length = xs.length) (h1 : ∀ v ∈ ys, v.oneCell' = true) : (storeCells ⟨g, 0, none⟩ ys.toArray.toList).run Try.prog w = .ok () (w.setRow g ys.toArray) := by
  have e := run_storeCells_at (P := Try.prog) g 0 _ ys.toArray.toList 0 _ w h (by simp; omega) (fun v hv => h1 v (by simpa using hv))
  rw [e]
  congr 2
  apply Array.ext'
  have : xs.length ≤ ys.length := by omega
  simp [this]
theorem Blk.self (h : Blk w g t xs) : w.setRow g xs.toArray = w := setRow_self _ _ _ _ _ h
end
/-- which bytes are among the first k -/
def sn (L : List Nat) (k : Nat) : List Bool := (List.range 256).map fun c => decide (c ∈ L.take k)
theorem sn_zero (L : List Nat) : sn L 0 = List.replicate 256 false := by simp [sn, List.map_const']
theorem sn_at (L : List Nat) (k : Nat) {c : Nat} (hc : c < 256) : (bls (sn L k))[c]? = some (.bool (decide (c ∈ L.take k))) := by simp [bls, sn, hc]
theorem sn_succ (L : List Nat) {k x : Nat} (hk : k < L.length) (hx : L.getD k 0 = x) : (bls (sn L k)).set x (.bool true) = bls (sn L (k + 1)) := by
  have hg : L[k] = x := by rw [← gd hk]; exact hx
  apply List.ext_getElem (by simp [bls, sn])
  intro c h1 h2
  rw [List.getElem_set]
  simp only [bls, sn, List.getElem_map, List.getElem_range]
  rw [List.take_succ_eq_append_getElem hk, hg]
  by_cases e : x = c
  · rw [if_pos e]; subst e; simp
  · rw [if_neg e]; simp [Ne.symm e]
set_option maxHeartbeats 4000000 in
set_option maxRecDepth 100000 in
theorem read_in (s : ByteArray) (w : World) (hs : s.size = 256) :
    Calls Try.prog 23 #[.string s] w fun e w' => e = .returned (.tuple #[.agg (u8s (if Row 256 (bsN s) then bsN s else zero256)).toArray, .int .i64 (rowE (bsN s))]) ∧ Below w.heap.size w w' := by
  have u : ((s.size : Int) == 256) = true := by rw [beq_iff_eq]; omega
  have u2 : (s.size == 256) = true := by rw [beq_iff_eq]; exact hs
  have u3 : ((s.size : Int) != 256) = false := by rw [bne_eq_false_iff_eq]; omega
  have u4 : (s.size != 256) = false := by rw [bne_eq_false_iff_eq]; exact hs
  have HSL := Lib.hid (bsN_length s)
  obtain ⟨L, hLL⟩ : ∃ L, L = bsN s := ⟨_, rfl⟩
  rw [← hLL] at HSL ⊢
  obtain ⟨VR, hVR⟩ : ∃ VR, VR = (u8s (if Row 256 L then L else zero256)).toArray := ⟨_, rfl⟩
  obtain ⟨rE, hrE⟩ : ∃ rE, rE = rowE L := ⟨_, rfl⟩
  rw [← hVR, ← hrE]
  have HVR := Lib.hid hVR; have HRE := Lib.hid hrE
  clear hVR hrE
  have hL : L.length = 256 := by rw [HSL.out, hs]
  have HSB : Hid (∀ x ∈ L, x < 256) := Lib.hid (by rw [hLL]; exact bsN_lt s)
  have z1 := zv_line
  have z2 := zv_seen
  have hb2 := fun W => run_build (P := Try.prog) W 45 #[] _ built_seen
  have hb1 := fun W => run_build (P := Try.prog) W 41 #[] _ built_line
  obtain ⟨w1, hw1⟩ : ∃ w1, w1 = w.alloc (.cells (u8s zero256).toArray 41) := ⟨_, rfl⟩
  have N1 : Blk w1 w.heap.size 41 (u8s zero256) := by rw [hw1]; exact heap_alloc_new w _
  have B1 : Below w.heap.size w w1 := by rw [hw1]; exact (Below.refl _ w).alloc (Nat.le_refl _) _
  have S1 : w1.heap.size = w.heap.size + 1 := by rw [hw1]; simp
  have hmk := Row.run_make w1 s
  have hby := Row.madeOf_bytes w1 s
  have hbl := Row.madeOf_below w1 s
  have hms := Row.madeOf_size w1 s
  obtain ⟨w2, hw2⟩ : ∃ w2, w2 = Row.madeOf w1 s := ⟨_, rfl⟩
  obtain ⟨cap, hcap⟩ : ∃ cap, cap = grownCap w1 s.size 0 5 := ⟨_, rfl⟩
  rw [← hw2] at hmk hby hbl hms
  rw [← hcap, hs, S1, hw1] at hmk
  rw [S1] at hby hbl hms
  have hrg : w2.rangeAt (w.heap.size + 1) 0 (u8s L) := (fun j v hj => by
    have hj2 : j < L.length := by have := (List.getElem?_eq_some_iff.1 hj).1; rw [u8s_length] at this; exact this
    rw [u8s_getD L j hj2] at hj
    cases hj
    rw [Nat.zero_add, hby.cell j (by rw [← Lib.size_eq]; omega), hLL, bsN_getD s j (by omega)]
    have hjs : j < s.data.toList.length := by rw [← Lib.size_eq]; omega
    have e : s.data.toList.getD j 0 = s[j]'(by omega) := by rw [List.getD_eq_getElem?_getD, List.getElem?_eq_getElem hjs]; simp; rfl
    rw [e])
  have haa : ∀ W, (Instr.arrayAt 41 (.slice (some ⟨w.heap.size + 1, 0, none⟩) 256 cap)).run Try.prog W = .ok (.pointer (some ⟨w.heap.size + 1, 0, none⟩)) W := fun W => by
    simp [Instr.arrayAt, run_underlying Try.underlying41]
  have N2 := N1.below (hbl.mono (Nat.le_refl _)) (by omega)
  have B2 := B1.trans (hbl.mono (by omega))
  obtain ⟨r0, hr0⟩ : ∃ r0, r0 = w.heap.size := ⟨_, rfl⟩
  rw [← hr0] at N2 B2 hms
  obtain ⟨w3, hw3⟩ : ∃ w3, w3 = (w2.alloc (.cells (u8s zero256).toArray 41)).alloc (.cells (bls (List.replicate 256 false)).toArray 45) := ⟨_, rfl⟩
  have s2 : (w2.alloc (.cells (u8s zero256).toArray 41)).heap.size = r0 + 1 + 1 + 1 := by simp [hms]
  have N3 : Blk w3 (r0 + 1 + 1) 41 (u8s zero256) := by
    rw [hw3, ← hms]; unfold Blk; exact (heap_alloc2_old w2 _ _)
  have M3 : Blk w3 (r0 + 1 + 1 + 1) 45 (bls (List.replicate 256 false)) := by
    rw [hw3, ← s2]; exact heap_alloc_new _ _
  have b3 : Below w2.heap.size w2 w3 := by
    rw [hw3]; exact ((Below.refl _ w2).alloc (Nat.le_refl _) _).alloc (by simp) _
  have R3 := N2.below b3 (by rw [hms]; omega)
  have B3 := B2.trans (b3.mono (by rw [hms]; omega))
  have st1 := N3.stores (ys := u8s L) (by rw [u8s_length, u8s_length, hL]; rfl) (u8s_one L)
  have N4 := N3.row (u8s L)
  have O4 : Only (r0 + 1 + 1) w3 (w3.setRow (r0 + 1 + 1) (u8s L).toArray) := (Only.refl _ w3).setRow _
  have M4 := M3.only O4 (by omega)
  have R4 := R3.only O4 (by omega)
  have B4 := B3.trans (O4.below (B := r0) (by omega))
  obtain ⟨w4, hw4⟩ : ∃ w4, w4 = w3.setRow (r0 + 1 + 1) (u8s L).toArray := ⟨_, rfl⟩
  rw [← hw4] at st1 N4 M4 R4 B4
  rw [hw3] at st1
  have st2 := M4.stores (ys := bls (List.replicate 256 false)) rfl (fun v hv => by simp only [bls, List.mem_map] at hv; obtain ⟨z, _, rfl⟩ := hv; rfl)
  rw [M4.self] at st2
  have VA : Hid (∀ k, k < 256 → (u8s L).toArray[k]? = some (.int .u8 (L.getD k 0 : Nat))) := Lib.hid (fun k hk => by have := u8s_getD L k (by omega); simpa using this)
  have ld : Hid (∀ W, Blk W (r0 + 1 + 1) 41 (u8s L) → (loadVar 41 ⟨r0 + 1 + 1, 0, none⟩).run Try.prog W = .ok (.agg (u8s L).toArray) W) := Lib.hid (fun W h => run_loadVar_row W _ _ _ _ _ _ h Try.underlying41 rfl (by rw [Ln.size, hL]; kernel_rfl))
  rw [← sn_zero L] at M4
  have HN4 := Lib.hid N4; have HM4 := Lib.hid M4; have HR4 := Lib.hid R4; have HB4 := Lib.hid B4; have HR0 := Lib.hid hr0; have HL := Lib.hid hL; have HLL := Lib.hid hLL
  have ld4 := ld.out w4 N4
  rw [← hr0] at haa hrg hmk
  have hsz : w.heap.size = r0 := hr0.symm
  have hms2 : (Row.madeOf w1 s).heap.size = r0 + 1 + 1 := by rw [← hw2]; exact hms
  clear N1 N2 N3 N4 M3 M4 R3 R4 B1 B2 B3 B4 b3 O4 S1 s2 hby hbl hcap hw4 hw3 hr0 hL hLL hw2 hw1 hms2
  obtain ⟨VZ, hVZ⟩ : ∃ VZ, VZ = (u8s zero256).toArray := ⟨_, rfl⟩
  obtain ⟨XL, hXL⟩ : ∃ XL, XL = u8s L := ⟨_, rfl⟩
  obtain ⟨VF, hVF⟩ : ∃ VF, VF = (bls (List.replicate 256 false)).toArray := ⟨_, rfl⟩
  rw [← hVZ] at z1 hb1 hmk st1
  have xl : XL.length = 256 := by rw [hXL, u8s_length, HL.out]
  have vf : VF.size = 256 := by rw [hVF]; rfl
  rw [← hXL] at ld4 st1 hrg
  rw [← hVF] at z2 hb2 st1 st2
  have HXL := Lib.hid hXL; have HVZ := Lib.hid hVZ
  clear hVZ hXL hVF
  have HRG := Lib.hid hrg
  have hiL : (Try.prog.info? 41).map (·.size) = some XL.length := by rw [xl]; kernel_rfl
  have HI := Lib.hid hiL
  clear hrg hiL
  have IX : Hid (∀ W (k x : Nat), k < 256 → L.getD k 0 = x → (Instr.index 41 (.agg XL.toArray) (.int .i64 (k : Int))).run Try.prog W = .ok (.int .u8 (x : Int)) W) := Lib.hid (fun W k x hk hx => by
    have hv : XL[k]? = some (.int .u8 (x : Int)) := by rw [HXL.out, u8s_getD L k (by rw [HL.out]; exact hk), hx]
    simp [Instr.index, run_underlying Try.underlying41, asIntOf, go_sem, hk, hv])
  have hN4 : w4.heap[r0 + 1 + 1]? = some (.cells XL.toArray 41 (0, 0)) := by rw [HXL.out]; exact HN4.out
  have HH4 := Lib.hid hN4
  have hiR : (Try.prog.info? 41).map (·.size) = some XL.toArray.size := by rw [List.size_toArray, xl]; kernel_rfl
  have HIR := Lib.hid hiR
  obtain ⟨z, hz⟩ : ∃ z, z = r0 + 1 + 1 := ⟨_, rfl⟩
  obtain ⟨y, hy⟩ : ∃ y, y = z + 1 := ⟨_, rfl⟩
  have HZ := Lib.hid hz; have HY := Lib.hid hy
  clear hN4 hiR ld4 hz hy
  go_enter Try.func23, Try.ntmps23
  go_wp2_with (first | (refine wpList_load_mid rfl 41 (.tmp 14) rfl (r0 + 1) 0 rfl XL _ HRG.out Try.underlying41 rfl HI.out ?_) | (refine wpList_load_row rfl 41 (.tmp 4) rfl (r0 + 1 + 1) rfl 41 XL.toArray (0, 0) _ HH4.out Try.underlying41 rfl HIR.out ?_))
  rw [← HZ.out] at HN4 HM4 HH4 ld ⊢
  rw [← HY.out] at HM4 ⊢
  clear hmk haa st1 st2 z2 hb2 HRG
  go_loopw [18] (fun i wr => ∃ k : Nat, k ≤ 256 ∧ i = .int .i64 k ∧ Hid ((L.take k).Nodup) ∧ Hid (Blk wr r0 41 (u8s zero256)) ∧ Hid (Blk wr z 41 (u8s L)) ∧ Hid (Blk wr y 45 (bls (sn L k))) ∧ Hid (Below r0 w wr)) (fun i _ => 256 - (RowKit.intOf i).toNat)
  case atStart => exact ⟨0, by omega, rfl, Lib.hid (by simp), HR4, HN4, HM4, HB4⟩
  case round =>
    clear HR4 HN4 HM4 HB4 HH4
    obtain ⟨k, hk, rfl, hnd, hr, hn, hm, hb⟩ := hrel
    by_cases hlt : k < 256
    · obtain ⟨x, hx⟩ : ∃ x, x = L.getD k 0 := ⟨_, rfl⟩
      have hkl : k < L.length := by rw [HL.out]; exact hlt
      have hxb : x < 256 := by rw [hx, gd hkl]; exact HSB.out _ (List.getElem_mem _)
      have ix := fun W => IX.out W k x hlt hx.symm
      have cs := hm.out.cell (sn_at L k hxb)
      have fs := hm.out.free x
      have k0 : (0 : Int) ≤ (k : Int) := by omega
      have k1 : (k : Int) < 256 := by omega
      have x0 : (0 : Int) ≤ (x : Int) := by omega
      have x1 : (x : Int) < 256 := by omega
      have hts : L.take (k + 1) = L.take k ++ [x] := by rw [List.take_succ_eq_append_getElem hkl, ← gd hkl, hx]
      by_cases hin : x ∈ L.take k
      · have F : Hid (rowE L = 2 ∧ (if Row 256 L then L else zero256) = zero256) := Lib.hid (by
          have hno : ¬ Row 256 L := fun h => by
            have h1 := row_nodup h
            have h2 : (L.take (k + 1)).Nodup := h1.sublist (List.take_sublist _ _)
            rw [hts] at h2
            exact (List.nodup_append.1 h2).2.2 x hin x (by simp) rfl
          exact ⟨rowE_no hno, if_neg hno⟩)
        have ed : decide (x ∈ L.take k) = true := decide_eq_true hin
        rw [ed] at cs
        have st := hr.out.stores (ys := u8s zero256) rfl (u8s_one _)
        rw [hr.out.self] at st
        have ldr := run_loadVar_row (P := Try.prog) _ r0 41 41 _ (0, 0) _ hr.out Try.underlying41 rfl (by rw [Ln.size]; kernel_rfl)
        have vz : VZ.size = 256 := by rw [HVZ.out]; exact Ln.size _
        rw [← HVZ.out] at st ldr
        have LDR := Lib.hid ldr
        clear ldr hin hx hts
        go_wp2_with fail
        refine bodyPost_ret (v := .tuple #[.agg VZ, .int .i64 2]) ?_ rfl ⟨by rw [HRE.out, HVR.out, F.out.1, F.out.2, HVZ.out], by first | exact hb.out | (rw [← HR0.out]; exact hb.out)⟩
        rw [results_cell_tmp rfl]
        have ldr := LDR.out
        simp [asAddr, ldr]
      · have ed : decide (x ∈ L.take k) = false := decide_eq_false hin
        rw [ed] at cs
        have H1 : Hid ((L.take (k + 1)).Nodup) := Lib.hid (by
          rw [hts]
          exact List.nodup_append.2 ⟨hnd.out, by simp, fun a ha b hb e => by
            simp only [List.mem_singleton] at hb
            subst hb; subst e; exact hin ha⟩)
        have S5 := hm.out.set x (.bool true)
        rw [sn_succ L hkl hx.symm] at S5
        have yr : r0 ≠ y := by have h1 := HY.out; have h2 := HZ.out; omega
        have yz : z ≠ y := by have h1 := HY.out; omega
        have yge : r0 ≤ y := by have h1 := HY.out; have h2 := HZ.out; omega
        have H2 := Lib.hid (hr.out.other (a := ⟨y, x, none⟩) yr (.bool true))
        have H3 := Lib.hid (hn.out.other (a := ⟨y, x, none⟩) yz (.bool true))
        have H4 := Lib.hid S5
        have H5 := Lib.hid (below_put hb.out (a := ⟨y, x, none⟩) yge (.bool true))
        clear S5 hin hx hts ed hnd hr hn hm hb yr yz yge
        go_wp2_with fail
        go_roundw
        case rel => exact ⟨k + 1, by omega, by first | rfl | go_num, H1, H2, H3, H4, H5⟩
        case measure => simp [RowKit.intOf]; omega
    · obtain rfl : k = 256 := by omega
      have F : Hid (rowE L = 0 ∧ (if Row 256 L then L else zero256) = L) := Lib.hid (by
        have h : Row 256 L := row_of_nodup HL.out (by have := hnd.out; rwa [List.take_of_length_le (by rw [HL.out]; exact Nat.le_refl _)] at this) HSB.out
        exact ⟨rowE_yes h, if_pos h⟩)
      have k1 : ¬ ((256 : Int) < 256) := by omega
      have st := hr.out.stores (ys := u8s L) (by rw [u8s_length, u8s_length, HL.out]; rfl) (u8s_one _)
      have hr2 := hr.out.row (u8s L)
      have b2 := hb.out.trans (((Only.refl r0 wr).setRow (u8s L).toArray).below (B := r0) (Nat.le_refl _))
      have ldr := run_loadVar_row (P := Try.prog) _ r0 41 41 _ (0, 0) _ hr2 Try.underlying41 rfl (by rw [Ln.size, HL.out]; kernel_rfl)
      have hh : wr.heap[z]? = some (.cells XL.toArray 41 (0, 0)) := by rw [HXL.out]; exact hn.out
      obtain ⟨w6, hw6⟩ : ∃ w6, w6 = wr.setRow r0 (u8s L).toArray := ⟨_, rfl⟩
      rw [← hw6] at st b2 ldr
      rw [← HXL.out] at st ldr
      have LDR := Lib.hid ldr; have B6 := Lib.hid b2
      have HHH := Lib.hid hh
      clear hr2 hw6 ldr b2 hh hnd hr hn hm hb
      go_wp2_with (refine wpList_load_row rfl 41 (.tmp 4) rfl z rfl 41 XL.toArray (0, 0) _ HHH.out Try.underlying41 rfl HIR.out ?_)
      refine bodyPost_ret (v := .tuple #[.agg XL.toArray, .int .i64 0]) ?_ rfl ⟨by rw [HRE.out, HVR.out, F.out.1, F.out.2, HXL.out], by first | exact B6.out | (rw [← HR0.out]; exact B6.out)⟩
      rw [results_cell_tmp rfl]
      have ldr := LDR.out
      simp [asAddr, ldr]
end Go.Proofs.Ytbcdnnppbggifaa.Mt
