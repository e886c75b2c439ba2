/- The walk of order.Ends. -/
import Derived.Test.YtonlbcibfbbpgaaGreatOrdR
import Derived.Test.YtonlbcibfbbpgaaGreatSrtNU
namespace Go.Proofs.YtonlbcibfbbpgaaGreat.Od
open Go.RowKit Go.Lib Rw Ls _root_.Go.Proofs.YtonlbcibfbbpgaaGreat.Nm

def toZ (l : List Nat) : List Int := l.map fun (n : Nat) => (n : Int)
theorem toZ_length (l : List Nat) : (toZ l).length = l.length := by simp [toZ]
theorem toZ_getD (l : List Nat) (i : Nat) : (toZ l).getD i 0 = ((l.getD i 0 : Nat) : Int) := by
  simp only [toZ, List.getD_eq_getElem?_getD, List.getElem?_map]
  cases l[i]? <;> rfl
theorem es_toZ (l : List Nat) : StU.es (toZ l) = nums l := by simp [StU.es, toZ, nums]
theorem isR_toZ {l R : List Nat} (hl : R.length = (toZ l).length) (h : ∀ i j, i < (toZ l).length → j < (toZ l).length → (R.getD i 0 < R.getD j 0 ↔ (toZ l).getD i 0 < (toZ l).getD j 0)) : IsR l R 1 := by
  rw [toZ_length] at hl h
  refine isR_one hl fun i j hi hj => ?_
  rw [h i j hi hj, toZ_getD, toZ_getD]
  omega
theorem pends_any (l : List Nat) (p : Option Addr) (c : Nat) (w : World) (hp : Rd w p (nums l)) (_hlc : l.length ≤ c) (hl : l.length ≤ 4096) :
    Calls Tryz.prog 7 #[.slice p l.length c] w (PlacesP w (ends l) 0) := by
  have C1 := StU.ranks_any (toZ l) p c w (by rw [toZ_length]; omega) (by rw [es_toZ]; exact hp)
  rw [toZ_length] at C1
  have H1 := Lib.hid C1
  obtain ⟨n, hn⟩ : ∃ n, n = l.length := ⟨_, rfl⟩
  rw [← hn] at H1 hl ⊢
  have HN := Lib.hid hn
  have nz : ¬ (4096 : Int) < (n : Int) := by omega
  clear C1 hp hn
  go_enter Tryz.func7, Tryz.ntmps7
  go_wp2_with fail
  ((with_reducible refine H1.out.mono ?_); rintro e w1 ⟨q1, c1, R, rfl, hR1, hR2, hR3, hR4, hR5, hR6⟩)
  have hRn : R.length = n := by rw [hR1, toZ_length, HN.out]
  have C2 := Lib.hid (sorted_any l R q1 c1 n w1 HN.out (by omega) hR3 (isR_toZ hR1 hR6))
  have HB := Lib.hid hR4
  rw [hRn]
  clear hR1 hR2 hR3 hR4 hR5 hR6 H1 hRn
  go_wp2_with fail
  ((with_reducible refine C2.out.mono ?_); rintro e w2 ⟨q2, c2, rfl, h1, h2, h3, h4, h5, h6⟩)
  have hs := HB.out.size
  have G1 := Lib.hid (Nat.le_of_eq h1.symm); have G2 := Lib.hid h2; have G3 : Hid (NewAt w.heap.size q2) := Lib.hid (fun a e => Nat.le_trans hs (h3 a e)); have G4 := Lib.hid h4; have G5 := Lib.hid (HB.out.trans (h6.mono hs))
  clear h1 h2 h3 h4 h5 h6 C2 hs
  go_wp2_with fail
  refine bodyPost_ret (v := .tuple #[.slice q2 (ends l).length c2, .int .i64 0]) (by simp [results, Tryz.results7, go_sem]) rfl ?_
  exact ⟨q2, c2, rfl, G1.out, G2.out, G3.out, G4.out, G5.out⟩
theorem pends_no (l : List Nat) (p : Option Addr) (c : Nat) (w : World) (hl : l.length ≤ 17592186044416) (h : 4096 < l.length) :
    Calls Tryz.prog 7 #[.slice p l.length c] w (PlacesP w [] 1) := by
  obtain ⟨n, hn⟩ : ∃ n, n = l.length := ⟨_, rfl⟩
  rw [← hn] at h hl ⊢
  clear hn
  have nz : (4096 : Int) < (n : Int) := by omega
  go_enter Tryz.func7, Tryz.ntmps7
  go_wp2_with fail
  refine bodyPost_ret (v := .tuple #[.slice none 0 0, .int .i64 1]) (by simp [results, Tryz.results7, go_sem]) rfl ?_
  exact places_no rfl (Below.refl _ _)
end Go.Proofs.YtonlbcibfbbpgaaGreat.Od
