/- Bits at work: gathered, done; same. -/
import Derived.Test.YtjbbkcnfilnmcaaDoorBitPutW
import Derived.Laws.IdiomStrings
namespace Go.Proofs.YtjbbkcnfilnmcaaDoor.Bt
open Go.RowKit

set_option maxHeartbeats 2000000 in
theorem gathered_any (p : Nat) (L : List UInt8) (N : Int) (w : World) (B : Nat) (hW : Work w B p L N) (hL : L.length ≤ 200000) :
    Calls Tryd.prog 20 #[.pointer (some ⟨p, 0, none⟩)] w fun e w' => ∃ g, e = .returned (.slice (some ⟨g, 0, none⟩) L.length L.length) ∧ (∀ j, j < L.length → w.cell? ⟨g, j, none⟩ = some (.int .u8 ((L.getD j 0).toNat : Int))) ∧ ∃ n, w' = w.drewN n := by
  obtain ⟨own, s0, v, hblk, hrow, hnn⟩ := hW
  have st : St w B p L N s0 v := ⟨own, hblk, hrow, hnn⟩
  obtain ⟨g, cap, rfl, hcap⟩ := st.shape
  have c2 := st.c2
  have F : Hid (∀ j, j < L.length → w.cell? ⟨g, j, none⟩ = some (.int .u8 ((L.getD j 0).toNat : Int))) := Lib.hid (fun j hj => (st.byte j hj).1)
  have hcm : cap ≤ maxLen := by
    rcases hrow.2 with ⟨h0, _⟩ | ⟨g', cap', cur, hv, _, _, _, hm, _⟩
    · cases h0
    · cases hv; exact hm
  unfold maxLen at hcm
  have i1 : (L.length : Int) ≤ (cap : Int) := by omega
  have i0 : (0 : Int) ≤ (L.length : Int) := by omega
  clear st hblk hrow hnn own
  go_enter Tryd.func20, Tryd.ntmps20
  go_wp2_with fail
  go_quiet (fail)
  go_wp2_with fail
  go_ret
  exact ⟨g, rfl, F.out, _, rfl⟩

theorem St.c0 {w : World} {B p : Nat} {L : List UInt8} {N : Int} {s0 : ByteArray} {v : Value} (h : St w B p L N s0 v) : w.cell? ⟨p, 0, none⟩ = some (.string s0) := by simp [World.cell?, h.block]
theorem Work.alloc {w : World} {B p : Nat} {L : List UInt8} {N : Int} (h : Work w B p L N) (o : Obj) : Work (w.alloc o) B p L N := by
  obtain ⟨own, s0, v, hblk, hrow, hnn⟩ := h
  have st : St w B p L N s0 v := ⟨own, hblk, hrow, hnn⟩
  exact (st.alloc o).work

set_option maxHeartbeats 2000000 in
theorem done_any (p : Nat) (L : List UInt8) (N : Int) (w : World) (B : Nat) (hW : Work w B p L N) (hL : L.length ≤ 200000) (hB : B ≤ w.heap.size) :
    Calls Tryd.prog 14 #[.pointer (some ⟨p, 0, none⟩)] w fun e w' => e = .returned (.agg #[.string ⟨L.toArray⟩, .int .i64 N]) ∧ Below B w w' := by
  have HW := Lib.hid hW
  obtain ⟨own, s0, v, hblk, hrow, hnn⟩ := hW
  have st : St w B p L N s0 v := ⟨own, hblk, hrow, hnn⟩
  have ST := Lib.hid st
  have hpz := st.size
  clear hblk hrow hnn st
  go_enter Tryd.func14, Tryd.ntmps14
  go_wp2_with fail
  refine (gathered_any p L N _ B (HW.out.alloc _) hL).mono ?_
  rintro e w1 ⟨g, rfl, hcells, n, rfl⟩
  have hbk := run_convert_bytes_back (P := Tryd.prog) ((w.alloc (.cells #[.string ⟨#[]⟩, .int .i64 0] 25)).drewN n) 22 9 5 ⟨g, 0, none⟩ L.length L Tryd.underlying22 Tryd.underlying5 Tryd.underlying9 (by
    intro j hj
    have e : ((⟨g, 0, none⟩ : Addr).add j) = ⟨g, j, none⟩ := by simp [Addr.add] <;> omega
    rw [e]
    have h2 := hcells j hj
    simp only [List.getD_eq_getElem?_getD, List.getElem?_eq_getElem hj, Option.getD_some] at h2
    exact h2)
  have st1 := (ST.out.alloc (.cells #[.string ⟨#[]⟩, .int .i64 0] 25)).drewN n
  have q0 : ((w.alloc (.cells #[.string ⟨#[]⟩, .int .i64 0] 25)).drewN n).cell? ⟨p, 0, none⟩ = some (.string s0) := st1.c0
  have q1 := st1.c1
  have qf := st1.f 0
  have hb1 : Below B w (((w.alloc (.cells #[.string ⟨#[]⟩, .int .i64 0] 25)).drewN n).setCell ⟨p, 0, none⟩ (.string ⟨L.toArray⟩)) := (below_drewN ((Below.refl B w).alloc hB _) n).setCell (p := ⟨p, 0, none⟩) own _
  have HB := Lib.hid hb1
  clear hcells st1 hb1
  go_wp2_with fail
  have hB2 := (HB.out.setCell (p := ⟨w.heap.size, 0, none⟩) hB (.string ⟨L.toArray⟩)).setCell (p := ⟨w.heap.size, 1, none⟩) hB (.int .i64 N)
  refine bodyPost_ret (v := .agg #[.string ⟨L.toArray⟩, .int .i64 N]) (by simp [results, Tryd.results14, go_sem]) rfl ⟨rfl, hB2⟩
end Go.Proofs.YtjbbkcnfilnmcaaDoor.Bt
