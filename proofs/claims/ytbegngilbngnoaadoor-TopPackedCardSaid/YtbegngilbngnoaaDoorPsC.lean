/- The walk of package pack's leaves. -/
import Derived.Test.YtbegngilbngnoaaDoorPsB
namespace Go.Proofs.YtbegngilbngnoaaDoor.Ps
open Go.RowKit Go.Lib Rw Ls Od Pk St _root_.Go.Proofs.YtbegngilbngnoaaDoor.Nm

/-- the leaves, new -/
def LeP (w : World) (ws : List Nat) (sz : Nat) (e : Ending) (w' : World) : Prop := ∃ (g cap : Nat), e = .returned (.slice (some ⟨g, 0, none⟩) sz cap) ∧ w.heap.size < g ∧ g < w'.heap.size ∧ Rd w' (some ⟨g, 0, none⟩) (zs (up (lv ws))) ∧ Below w.heap.size w w'
set_option maxHeartbeats 4000000 in
set_option maxRecDepth 100000 in
theorem leaves_any (ws : List Nat) (p : Option Addr) (c n sz : Nat) (w : World) (hn : n = ws.length) (hl : n ≤ 1000000) (hsz : sz = (sy ws).length) (hp : Rd w p (nums ws)) :
    Calls Tryd.prog 33 #[.slice p n c] w (LeP w ws sz) := by
  obtain ⟨i0, hi0, hz0, hz1, hz2⟩ := info_parts info_int
  obtain ⟨B, hB⟩ : ∃ B, B = w.heap.size := ⟨_, rfl⟩
  obtain ⟨w1, hw1⟩ : ∃ w1, w1 = w.alloc (.cells #[.slice p n c] 22) := ⟨_, rfl⟩
  obtain ⟨w2, hw2⟩ : ∃ w2, w2 = w1.alloc (.cells #[] 3) := ⟨_, rfl⟩
  have hb1 : Below w.heap.size w w1 := by rw [hw1]; exact (Below.refl _ w).alloc (Nat.le_refl _) _
  have hs1 : w1.heap.size = B + 1 := by rw [hw1, hB]; simp
  have hb2 : Below w1.heap.size w1 w2 := by rw [hw2]; exact (Below.refl _ w1).alloc (Nat.le_refl _) _
  have hs2 : w2.heap.size = B + 2 := by rw [hw2]; simp [hs1]
  have own0 : w2.ownsRow (B + 1) 3 1 (.slice (some ⟨B + 1, 0, none⟩) 0 0) 0 [] := by
    have := World.ownsRow_lit (e := 3) (base := B + 1) (size := 1) w1 #[] 0 (by omega) (by decide) rfl
    rw [← hw2, hs1] at this
    exact this
  have hcell : w1.cell? ⟨B, 0, none⟩ = some (.slice p n c) := by rw [hw1, hB]; simp
  have hbw : Below B w w2 := by rw [hB]; exact hb1.trans (hb2.mono (by rw [hs1]; omega))
  have HB2 : Hid (Below B w w2) := Lib.hid hbw
  have P : Hid (∀ W, Below (B + 1) w2 W → Rd W p (nums ws) ∧ W.cell? ⟨B, 0, none⟩ = some (.slice p n c)) := Lib.hid (fun W hb => ⟨hp.below (by rw [← hB]; exact hbw.trans (hb.mono (by omega))),
    by rw [hb.cell (p := ⟨B, 0, none⟩) (by show B < B + 1; omega), hb2.cell (p := ⟨B, 0, none⟩) (by show B < _; omega)]; exact hcell⟩)
  have HPL : Hid (0 < n → ∀ a, p = some a → a.block < B) := Lib.hid (fun h0 a e => by
    obtain ⟨a', e', hlt, _⟩ := hp 0 (by rw [nums_length, ← hn]; exact h0)
    rw [e] at e'; cases e'; rw [hB]; exact hlt)
  have CR : Hid (∀ (g cap : Nat) (W : World), W.ownsRow (B + 1) 3 1 (.slice (some ⟨g, 0, none⟩) sz cap) sz (zs (up (sy ws))) → g < W.heap.size → B + 1 ≤ g → Below (B + 1) w2 W → Calls Tryd.prog 49 #[.slice (some ⟨g, 0, none⟩) sz cap, .func (.func 50) #[] #[.pointer (some ⟨B, 0, none⟩)]] W fun e w' => e = .returned (.tuple #[]) ∧ Below (B + 1) W w' ∧ Rd w' (some ⟨g, 0, none⟩) (zs (up (lv ws)))) :=
    Lib.hid (fun g cap W h1 h2 h3 h4 => rise_any ws p c B n (B + 1) g cap sz W hn hl hsz (by have := h4.size; omega) h1 h2 h3 (by have := h4.size; omega) (by omega) (P.out W h4).2 (P.out W h4).1 (fun h0 a e => by have := HPL.out h0 a e; omega))
  have HN := Lib.hid hn; have HSZ := Lib.hid hsz; have HO0 := Lib.hid own0; have HBW := Lib.hid hB; have HS2 := Lib.hid hs2
  have HSY : Hid ((sy ws).length ≤ n) := Lib.hid (by rw [hn]; exact sy_len ws)
  rw [hw1] at hw2
  have W2 := Lib.hid hw2
  have e2 : (w.alloc (.cells #[.slice p n c] 22)).heap.size = B + 1 := by rw [hB]; simp
  clear hw1 hb1 hs1 hb2 hs2 own0 hcell hbw hp hn hsz hB
  go_enter Tryd.func33, Tryd.ntmps33
  go_wp2_with fail
  try rw [← hw2]
  try rw [← HBW.out]
  clear hw2 e2
  go_loopw [3, 9] (fun v i wr => ∃ (k g cap : Nat) (out : List Nat), k ≤ n ∧ i = .int .i64 k ∧ v = .slice (some ⟨g, 0, none⟩) out.length cap ∧ g < wr.heap.size ∧ B + 1 ≤ g ∧ Hid (out = (List.range k).filter fun i => decide (0 < ws.getD i 0)) ∧ out.length ≤ k ∧ Hid (wr.ownsRow (B + 1) 3 1 v out.length (zs (up out))) ∧ Hid (Below (B + 1) w2 wr)) (fun _ i _ => n - (intOf i).toNat)
  case atStart => exact ⟨0, B + 1, 0, [], Nat.zero_le _, rfl, rfl, by rw [HS2.out]; omega, Nat.le_refl _, Lib.hid rfl, Nat.le_refl _, Lib.hid (by show w2.ownsRow (B + 1) 3 1 _ 0 []; exact HO0.out), Lib.hid (Below.refl _ _)⟩
  case round =>
    obtain ⟨k, g, cap, out, hk, rfl, rfl, hgl, hgB, HE, hol, HO, HB⟩ := hrel
    have hwz : B + 1 ≤ wr.heap.size := by omega
    obtain ⟨hr2, hbx2⟩ := P.out _ HB.out
    have P2 := Lib.hid hr2
    clear hr2
    have HSU := Lib.hid (sy_succ ws k)
    by_cases hlt : k < n
    · obtain ⟨a, rfl, cy⟩ := rd_num P2.out k (by rw [← HN.out]; exact hlt)
      obtain ⟨y, hy⟩ : ∃ y, y = ws.getD k 0 := ⟨_, rfl⟩
      rw [← hy] at cy HSU
      rw [← HE.out] at HSU
      have k0 : (0 : Int) ≤ (k : Int) := by omega
      have k1 : (k : Int) < (n : Int) := by omega
      clear hy
      by_cases hyb : 0 < y
      · have d1 : decide ((0 : Int) < (y : Int)) = true := decide_eq_true (by omega)
        have d2 : decide (0 < y) = true := decide_eq_true hyb
        have HE2 : Hid (out ++ [k] = (List.range (k + 1)).filter fun i => decide (0 < ws.getD i 0)) := Lib.hid (by rw [HSU.out, if_pos hyb])
        have HNL : Hid (zs (up (out ++ [k])) = zs (up out) ++ [.int .i64 (k : Nat)] ∧ (out ++ [k]).length = out.length + 1) := Lib.hid ⟨by simp [zs, up], by simp⟩
        clear hyb
        go_wp2_with (at_builtin; refine Rw.push rfl _ _ 36 rfl (B + 1) 3 i0 (.int .i64 0) 1 8 Tryd.underlying36 hi0 hz0 hz1 hz2 rfl (by decide) _ _ _ rfl HO.out [.int .i64 (k : Nat)] rfl rfl rfl (by omega) (by omega) hwz ?_)
        intro g4 cap4 w4 hown4 _ hor4 hl4 hb4
        have hgB4 : B + 1 ≤ g4 := by
          rcases hor4 with h | h
          · have : g = g4 := by simpa [Value.ownBlock] using h
            omega
          · omega
        have HO4 : Hid (w4.ownsRow (B + 1) 3 1 (.slice (some ⟨g4, 0, none⟩) (out.length + 1) cap4) (out ++ [k]).length (zs (up (out ++ [k])))) := Lib.hid (by rw [HNL.out.1, HNL.out.2]; exact hown4)
        have HB4 := Lib.hid (HB.out.trans hb4)
        have HL4 : Hid ((out ++ [k]).length ≤ k + 1) := Lib.hid (by rw [HNL.out.2]; omega)
        clear hown4 hb4 hor4
        go_wp2_with fail
        go_roundw
        case rel => exact ⟨k + 1, g4, cap4, out ++ [k], by omega, by go_num, by rw [HNL.out.2], hl4, hgB4, HE2, HL4.out, HO4, HB4⟩
        case measure => simp [intOf]; omega
      · have d1 : decide ((0 : Int) < (y : Int)) = false := decide_eq_false (by omega)
        have d2 : decide (0 < y) = false := decide_eq_false hyb
        have HE2 : Hid (out = (List.range (k + 1)).filter fun i => decide (0 < ws.getD i 0)) := Lib.hid (by rw [HSU.out, if_neg hyb, List.append_nil])
        clear hyb
        go_wp2_with fail
        go_roundw
        case rel => exact ⟨k + 1, g, cap, out, by omega, by go_num, rfl, hgl, hgB, HE2, by omega, HO, HB⟩
        case measure => simp [intOf]; omega
    · obtain rfl : k = n := by omega
      have HF : Hid (sy ws = out) := Lib.hid (by rw [HE.out, sy, ← HN.out])
      have hsl : sz = out.length := by rw [HSZ.out, HF.out]
      have k1 : ¬ (k : Int) < (k : Int) := by omega
      have C := CR.out g cap wr (by rw [HF.out, hsl]; exact HO.out) hgl hgB HB.out
      rw [hsl] at C
      have C1 := Lib.hid C
      have HSL := Lib.hid hsl
      clear C hsl
      go_wp2_with fail
      refine C1.out.mono ?_
      rintro e w3 ⟨rfl, h1, h2⟩
      have F : Hid (LeP w ws sz (.returned (.slice (some ⟨g, 0, none⟩) out.length cap)) w3) := Lib.hid (by
        have hb := HB2.out.trans ((HB.out.trans h1).mono (Nat.le_succ B))
        have := h1.size
        exact ⟨g, cap, by rw [HSL.out], by rw [← HBW.out]; omega, by omega, h2, by rw [← HBW.out]; exact hb⟩)
      clear h1 h2 C1
      go_wp2_with fail
      go_ret
      exact F.out
end Go.Proofs.YtbegngilbngnoaaDoor.Ps
