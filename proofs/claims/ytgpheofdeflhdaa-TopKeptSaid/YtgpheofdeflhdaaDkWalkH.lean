/- The walk of wait. -/
import Derived.Test.YtgpheofdeflhdaaDkWork
namespace Go.Proofs.Ytgpheofdeflhdaa.Dk
open Go.RowKit Go.Op

theorem info_wr : (Try.prog.info? 39).map (fun i => (i.zero, i.size, i.bytes)) = some (some (.agg #[.string ⟨#[]⟩, .int .i64 0, .string ⟨#[]⟩]), 3, 40) := by kernel_rfl
theorem info_ext : (Try.prog.info? 86).map (fun i => (i.zero, i.size, i.bytes)) = some (some (.agg #[.string ⟨#[]⟩, .string ⟨#[]⟩]), 2, 32) := by kernel_rfl

set_option maxHeartbeats 4000000 in
set_option maxRecDepth 100000 in
theorem wait_any (g gW n cW B : Nat) (v0 v1 v3 v4 v5 : Value) (xs : List Value) (nm : ByteArray) (s : Int) (d : ByteArray) (w : World)
    (hb : Boxed w g [v0, v1, .slice (some ⟨gW, 0, none⟩) n cW, v3, v4, v5]) (hr : w.ownsRow B 39 3 (.slice (some ⟨gW, 0, none⟩) n cW) n xs) (hg : g ≠ gW) (hroom : n + 1 ≤ cW)
    (h1 : nm.size ≤ 281474976710656) (h2 : d.size ≤ 281474976710656) :
    Calls Try.prog 46 #[.pointer (some ⟨g, 0, none⟩), .string nm, .int .i64 s, .string d] w fun e w' => e = .returned (.tuple #[]) ∧
      Boxed w' g [v0, v1, .slice (some ⟨gW, 0, none⟩) (n + 1) cW, v3, v4, v5] ∧ w'.ownsRow B 39 3 (.slice (some ⟨gW, 0, none⟩) (n + 1) cW) (n + 1) (xs ++ [.string nm, .int .i64 s, .string d]) ∧ Bar w w' (fun k => k = g ∨ k = gW) := by
  obtain ⟨i0, hi0, hz0, hz1, hz2⟩ := info_parts info_wr
  have HI := Lib.hid hi0; have HZ := Lib.hid hz1
  obtain ⟨BB, hBB⟩ : ∃ BB : World → Prop, BB = fun W => Boxed W g [v0, v1, .slice (some ⟨gW, 0, none⟩) n cW, v3, v4, v5] ∧ W.ownsRow B 39 3 (.slice (some ⟨gW, 0, none⟩) n cW) n xs ∧ Below w.heap.size w W := ⟨_, rfl⟩
  have hK : ∀ W, BB W → W.cell? ⟨g, 2, none⟩ = some (.slice (some ⟨gW, 0, none⟩) n cW) ∧ g < W.heap.size := by
    intro W h; rw [hBB] at h; exact ⟨h.1.cell 2 (by simp), h.1.lt⟩
  have hF : ∀ W, BB W → Boxed W g [v0, v1, .slice (some ⟨gW, 0, none⟩) n cW, v3, v4, v5] ∧ Bar w W (fun k => k = g ∨ k = gW) := by
    intro W h; rw [hBB] at h; exact ⟨h.1, Bar.of_below h.2.2 _⟩
  have hR : ∀ W, BB W → W.ownsRow B 39 3 (.slice (some ⟨gW, 0, none⟩) n cW) n xs := by
    intro W h; rw [hBB] at h; exact h.2.1
  have hL : ∀ W W' : World, BB W → Below W.heap.size W W' → BB W' := by
    intro W W' h hb
    rw [hBB] at h ⊢
    exact ⟨h.1.below hb, Rw.own_below h.2.1 hb, h.2.2.trans (hb.mono h.2.2.size)⟩
  have hD : ∀ W, BB W → BB W.drew := fun W h => hL W _ h (Below.drew (Below.refl _ W))
  have h0 : BB w := by rw [hBB]; exact ⟨hb, hr, Below.refl _ _⟩
  have HK := Lib.hid hK; have HL := Lib.hid hL; have HD := Lib.hid hD; have HF := Lib.hid hF; have HR := Lib.hid hR; have H0 := Lib.hid h0; have HG := Lib.hid hg; have HRM := Lib.hid hroom
  have q0 := (hK w h0).1
  clear hBB hK hL hD hF hR h0 hb hr hi0 hz0 hz1 hz2 hroom
  go_enter Try.func46, Try.ntmps46
  go_wp2_with fail
  go_region_law (first
    | (refine step_push _ (by rfl) _ _ _ (by rfl) B 39 i0 3 Try.underlying23 HI.out HZ.out gW n cW xs (by rfl) (HR.out _ (by repeat (first | exact H0.out | assumption | apply HD.out))) [.string nm, .int .i64 s, .string d] (by rfl) (by rfl) (by rfl) HRM.out ?_; intro w1 hown1 hbar
       have hF := HF.out _ hw
       have hbx := hF.1.bar hbar HG.out
       have hbb := hF.2.trans (hbar.mono (fun k _ h => Or.inr h))
       have c2 : w1.cell? ⟨g, 2, none⟩ = some (.slice (some ⟨gW, 0, none⟩) n cW) := hbx.cell 2 (by simp)
       have f2 : w1.frozen? ⟨g, 2, none⟩ = false := hbx.free 2 (by simp)
       have HBX := Lib.hid hbx; have HBB := Lib.hid hbb; have HOW := Lib.hid hown1
       clear hF hbar hbx hbb hown1)
    | (go_simp; go_at_call 30; ((with_reducible refine (Cln.clone_any nm _ h1).mono ?_)); rintro e w' ⟨rfl, hb⟩; have hw := HL.out _ _ (by repeat (first | exact H0.out | assumption | apply HD.out)) hb; have hq := (HK.out _ hw).1; have hlt := (HK.out _ hw).2; clear hb)
    | (go_simp; go_at_call 30; ((with_reducible refine (Cln.clone_any d _ h2).mono ?_)); rintro e w' ⟨rfl, hb⟩; have hw := HL.out _ _ (by repeat (first | exact H0.out | assumption | apply HD.out)) hb; have hq := (HK.out _ hw).1; have hlt := (HK.out _ hw).2; clear hb))
  all_goals go_end0
  all_goals exact ⟨rfl, HBX.out.set (by simp) _, own_bar HOW.out ((Bar.refl _ (fun k => k = g)).setCell rfl _) (fun k hk h => by simp [Value.ownBlock] at hk; exact HG.out (by omega)), HBB.out.setCell (Or.inl rfl) _⟩
end Go.Proofs.Ytgpheofdeflhdaa.Dk
