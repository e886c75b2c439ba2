/- against: what holds two ends against each other; cmp.Or. sorted: the order of a list of ranks' ends. -/
import Derived.Test.YtonlbcibfbbpgaaGreatOrdD
import Derived.Test.YtonlbcibfbbpgaaGreatOrdNum
import Derived.Test.YtonlbcibfbbpgaaGreatShelf
import Derived.Deep.RegionHeld3
import Derived.Test.YtonlbcibfbbpgaaGreatXSeq
import Derived.Laws.EntriesVeiled
namespace Go.Proofs.YtonlbcibfbbpgaaGreat.Od
open Go.RowKit Go.Lib Rw Ls _root_.Go.Proofs.YtonlbcibfbbpgaaGreat.Nm

theorem compare_any (x y : Int) (w : World) : Calls Tryz.prog 58 #[.int .i64 x, .int .i64 y] w fun e w' => e = .returned (.int .i64 (compareInt x y)) ∧ w = w' := (Tryz.cmp_Compare_int x y w).mono fun _ _ ⟨h1, h2⟩ => ⟨h1, h2.symm⟩
theorem or_any (x y : Int) (g c : Nat) (w : World) (h1 : w.cell? ⟨g, 0, none⟩ = some (.int .i64 x)) (h2 : w.cell? ⟨g, 1, none⟩ = some (.int .i64 y)) :
    Calls Tryz.prog 57 #[.slice (some ⟨g, 0, none⟩) 2 c] w fun e w' => e = .returned (.int .i64 (orI x y)) ∧ w = w' := by
  go_enter Tryz.func57, Tryz.ntmps57
  go_wp2
  go_loopw [8] (fun i wr => ∃ k : Nat, k ≤ 2 ∧ i = .int .i64 k ∧ Hid (1 ≤ k → x = 0) ∧ Hid (2 ≤ k → y = 0) ∧ wr = w) (fun i _ => 2 - (intOf i).toNat)
  case atStart => exact ⟨0, by omega, rfl, Lib.hid (fun h => absurd h (by omega)), Lib.hid (fun h => absurd h (by omega)), rfl⟩
  case round =>
    obtain ⟨k, hk, rfl, hx, hy, rfl⟩ := hrel
    by_cases k0 : k = 0
    · subst k0
      clear hx hy
      cases hz : (x == 0) with
      | true =>
        have hz2 : x = 0 := by simpa using hz
        subst hz2
        go_wp2
        go_roundw
        case rel => exact ⟨1, by omega, by first | rfl | go_num, Lib.hid (by simp), Lib.hid (by simp), by first | rfl | trivial⟩
        case measure => simp [intOf]
      | false =>
        have nz : (x != 0) = true := by simpa using hz
        have nz2 : ¬ x = 0 := by simpa using hz
        have E : Hid (orI x y = x) := Lib.hid (by unfold orI; rw [if_neg nz2])
        clear nz2
        go_wp2
        go_ret
        exact ⟨ret_int E.out.symm, rfl⟩
    by_cases k1 : k = 1
    · subst k1
      have hx0 := hx.out (Nat.le_refl _)
      subst hx0
      clear hx hy
      cases hz : (y == 0) with
      | true =>
        have hz2 : y = 0 := by simpa using hz
        subst hz2
        go_wp2
        go_roundw
        case rel => exact ⟨2, by omega, by first | rfl | go_num, Lib.hid (by simp), Lib.hid (by simp), by first | rfl | trivial⟩
        case measure => simp [intOf]
      | false =>
        have nz : (y != 0) = true := by simpa using hz
        have E : Hid (orI 0 y = y) := Lib.hid rfl
        go_wp2
        go_ret
        exact ⟨ret_int E.out.symm, rfl⟩
    · obtain rfl : k = 2 := by omega
      have hx0 := hx.out (by omega)
      have hy0 := hy.out (by omega)
      subst hx0 hy0
      clear hx hy
      go_wp2
      go_ret
      exact ⟨ret_int rfl, rfl⟩
/-- what against has captured -/
structure Cap (w : World) (b2 b3 b5 n c s : Nat) (p : Option Addr) (R : List Nat) : Prop where
  k2 : w.cell? ⟨b2, 0, none⟩ = some (.slice p n c)
  k3 : w.cell? ⟨b3, 0, none⟩ = some (.int .i64 s)
  k5 : w.cell? ⟨b5, 0, none⟩ = some (.func (.func 55) #[] #[.pointer (some ⟨b3, 0, none⟩), .pointer (some ⟨b2, 0, none⟩)])
  l2 : b2 < w.heap.size
  l3 : b3 < w.heap.size
  l5 : b5 < w.heap.size
  rd : Rd w p (zs (up R))
  len : R.length = n
section
variable {w w' : World} {b2 b3 b5 n c s : Nat} {p : Option Addr} {R : List Nat}
theorem Cap.bar (h : Cap w b2 b3 b5 n c s p R) {q : Nat → Prop} (hb : Bar w w' q) (h2 : ¬ q b2) (h3 : ¬ q b3) (h5 : ¬ q b5) (hp : ∀ a, p = some a → ¬ q a.block) : Cap w' b2 b3 b5 n c s p R :=
  ⟨(hb.cell (a := ⟨b2, 0, none⟩) h.l2 h2).trans h.k2, (hb.cell (a := ⟨b3, 0, none⟩) h.l3 h3).trans h.k3, (hb.cell (a := ⟨b5, 0, none⟩) h.l5 h5).trans h.k5, Nat.lt_of_lt_of_le h.l2 hb.size, Nat.lt_of_lt_of_le h.l3 hb.size, Nat.lt_of_lt_of_le h.l5 hb.size, Rd.bar h.rd hb hp, h.len⟩
theorem Cap.below (h : Cap w b2 b3 b5 n c s p R) (hb : Below w.heap.size w w') : Cap w' b2 b3 b5 n c s p R :=
  h.bar (Bar.of_below hb (fun _ => False)) id id id (fun _ _ => id)
end
theorem behind_any (e s b2 b3 b5 n c : Nat) (p : Option Addr) (R : List Nat) (w : World) (h : Cap w b2 b3 b5 n c s p R) (hn : n ≤ 1000000000) (hs : s ≤ 10000000000) (he : e < n) :
    Calls Tryz.prog 55 #[.int .i64 e, .pointer (some ⟨b3, 0, none⟩), .pointer (some ⟨b2, 0, none⟩)] w fun r w' => r = .returned (.int .i64 (beh R s e)) ∧ w = w' := by
  obtain ⟨k2, k3, _, _, _, _, rd, len⟩ := h
  have HR := Lib.hid rd; have HL := Lib.hid len
  clear rd len
  by_cases hlt : e + s < n
  · have hz : (e : Int) + (s : Int) < (n : Int) := by omega
    have E : Hid (beh R s e = ((R.getD (e + s) 0 : Nat) : Int)) := Lib.hid (by unfold beh; rw [HL.out, if_pos hlt])
    obtain ⟨a, rfl, cx⟩ := rd_z HR.out (e + s) (by rw [up_length, HL.out]; exact hlt)
    have cx2 : w.cell? (a.add (e + s)) = some (.int .i64 (beh R s e)) := by
      rw [cx, E.out]
      simp [up, List.getD_eq_getElem?_getD, HL.out, hlt]
    obtain ⟨q, hq⟩ : ∃ q, q = e + s := ⟨_, rfl⟩
    have eq : ((e : Int) + (s : Int)).toNat = q := by omega
    have ez : (e : Int) + (s : Int) = (q : Int) := by omega
    rw [← hq] at cx2
    have qz : (q : Int) < (n : Int) := by omega
    generalize beh R s e = z at cx2 ⊢
    clear cx hq E
    go_enter Tryz.func55, Tryz.ntmps55
    go_wp2
    go_ret
    exact ⟨rfl, rfl⟩
  · have hz : ¬ (e : Int) + (s : Int) < (n : Int) := by omega
    have E : Hid (beh R s e = -1) := Lib.hid (by unfold beh; rw [HL.out, if_neg hlt])
    rw [E.out]
    go_enter Tryz.func55, Tryz.ntmps55
    go_wp2
    go_ret
    exact ⟨rfl, rfl⟩
theorem behind_enters : ∀ args w, (callFunc 55 args).run Tryz.prog w = .ok (.enter 55 args) w := enters_of Tryz.func55 (by kernel_rfl) rfl
theorem versus_enters : ∀ args w, (callFunc 56 args).run Tryz.prog w = .ok (.enter 56 args) w := enters_of Tryz.func56 (by kernel_rfl) rfl
/-- a number, and but for new blocks the world is as it was -/
def GrP (w : World) (z : Int) (e : Ending) (w' : World) : Prop := e = .returned (.int .i64 z) ∧ ∃ q os, w' = Go.Sort.grow (w.drewN q) os
set_option maxHeartbeats 4000000 in
set_option maxRecDepth 100000 in
theorem versus_any (a b s b2 b3 b5 n c : Nat) (p : Option Addr) (R : List Nat) (w : World) (h : Cap w b2 b3 b5 n c s p R) (hn : n ≤ 1000000000) (hs : s ≤ 10000000000) (ha : a < n) (hb : b < n) :
    Calls Tryz.prog 56 #[.int .i64 a, .int .i64 b, .pointer (some ⟨b2, 0, none⟩), .pointer (some ⟨b5, 0, none⟩)] w (GrP w (cf R s a b)) := by
  obtain ⟨A, rfl, _⟩ := rd_z h.rd a (by rw [up_length, h.len]; exact ha)
  obtain ⟨x, hx⟩ : ∃ x, x = ((R.getD a 0 : Nat) : Int) := ⟨_, rfl⟩
  obtain ⟨y, hy⟩ : ∃ y, y = ((R.getD b 0 : Nat) : Int) := ⟨_, rfl⟩
  have hKx : ∀ W, Cap W b2 b3 b5 n c s (some A) R → W.cell? (A.add a) = some (.int .i64 x) := fun W h => by
    obtain ⟨A', e, cx⟩ := rd_z h.rd a (by rw [up_length, h.len]; exact ha)
    cases e
    rw [cx, hx]; simp [up, List.getD_eq_getElem?_getD, h.len, ha]
  have hKy : ∀ W, Cap W b2 b3 b5 n c s (some A) R → W.cell? (A.add b) = some (.int .i64 y) := fun W h => by
    obtain ⟨A', e, cx⟩ := rd_z h.rd b (by rw [up_length, h.len]; exact hb)
    cases e
    rw [cx, hy]; simp [up, List.getD_eq_getElem?_getD, h.len, hb]
  obtain ⟨u, hu⟩ : ∃ u, u = beh R s a := ⟨_, rfl⟩
  obtain ⟨v, hv⟩ : ∃ v, v = beh R s b := ⟨_, rfl⟩
  have hca : ∀ W, Cap W b2 b3 b5 n c s (some A) R → Calls Tryz.prog 55 #[.int .i64 a, .pointer (some ⟨b3, 0, none⟩), .pointer (some ⟨b2, 0, none⟩)] W fun r w' => r = .returned (.int .i64 u) ∧ W = w' := fun W h => by rw [hu]; exact behind_any a s b2 b3 b5 n c _ R W h hn hs ha
  have hcb : ∀ W, Cap W b2 b3 b5 n c s (some A) R → Calls Tryz.prog 55 #[.int .i64 b, .pointer (some ⟨b3, 0, none⟩), .pointer (some ⟨b2, 0, none⟩)] W fun r w' => r = .returned (.int .i64 v) ∧ W = w' := fun W h => by rw [hv]; exact behind_any b s b2 b3 b5 n c _ R W h hn hs hb
  have E : Hid (cf R s a b = orI (compareInt x y) (compareInt u v)) := Lib.hid (by rw [hx, hy, hu, hv]; rfl)
  rw [E.out]
  obtain ⟨BB, hBB⟩ : ∃ BB : World → Prop, BB = fun W => Cap W b2 b3 b5 n c s (some A) R ∧ ∃ q os, W = Go.Sort.grow (w.drewN q) os := ⟨_, rfl⟩
  have HK := Lib.hid (show ∀ W, BB W → BB W ∧ W.cell? ⟨b2, 0, none⟩ = some (.slice (some A) n c) ∧ W.cell? ⟨b5, 0, none⟩ = some (.func (.func 55) #[] #[.pointer (some ⟨b3, 0, none⟩), .pointer (some ⟨b2, 0, none⟩)]) ∧ W.cell? (A.add a) = some (.int .i64 x) ∧ W.cell? (A.add b) = some (.int .i64 y) from fun W hh => by
    refine ⟨hh, ?_⟩
    rw [hBB] at hh
    exact ⟨hh.1.k2, hh.1.k5, hKx W hh.1, hKy W hh.1⟩)
  have HA := Lib.hid (show ∀ (W : World) (o : Obj), BB W → BB (W.alloc o) from fun W o hh => by
    rw [hBB] at hh ⊢
    obtain ⟨h1, q, os, rfl⟩ := hh
    exact ⟨h1.below ((Below.refl _ _).alloc (Nat.le_refl _) _), q, os ++ #[o], by rw [Go.Sort.alloc_eq_grow, Go.Sort.grow_grow]⟩)
  have HD := Lib.hid (show ∀ W : World, BB W → BB W.drew from fun W hh => by
    rw [hBB] at hh ⊢
    obtain ⟨h1, q, os, rfl⟩ := hh
    exact ⟨h1.below (Below.drew (Below.refl _ _)), q + 1, os, rfl⟩)
  have HCA := Lib.hid (show ∀ W, BB W → _ from fun W hh => hca W (by rw [hBB] at hh; exact hh.1))
  have HCB := Lib.hid (show ∀ W, BB W → _ from fun W hh => hcb W (by rw [hBB] at hh; exact hh.1))
  have HE := Lib.hid (show ∀ W, BB W → ∃ q os, W = Go.Sort.grow (w.drewN q) os from fun W hh => by rw [hBB] at hh; exact hh.2)
  have H0 := Lib.hid (show BB w from by rw [hBB]; exact ⟨h, 0, #[], by simp [World.drewN]⟩)
  have F0 := HK.out w H0.out
  have az : (a : Int) < (n : Int) := by omega
  have bz : (b : Int) < (n : Int) := by omega
  obtain ⟨F0a, F0b, F0c, F0d, F0e⟩ := F0
  clear hBB hKx hKy hx hy hu hv hca hcb h
  have ea := behind_enters
  go_enter Tryz.func56, Tryz.ntmps56
  go_wp2
  go_region_held3 (fun W => BB W ∧ W.cell? ⟨b2, 0, none⟩ = some (.slice (some A) n c) ∧ W.cell? ⟨b5, 0, none⟩ = some (.func (.func 55) #[] #[.pointer (some ⟨b3, 0, none⟩), .pointer (some ⟨b2, 0, none⟩)]) ∧ W.cell? (A.add a) = some (.int .i64 x) ∧ W.cell? (A.add b) = some (.int .i64 y)) ((refine HK.out _ ?_; repeat (first | exact H0.out | assumption | apply HD.out | apply HA.out))) (first | (go_at_call 58; (with_reducible refine (compare_any _ _ _).mono ?_); rintro e w' ⟨rfl, rfl⟩) | (go_at_call 57; (with_reducible refine (or_any (compareInt x y) (compareInt u v) _ _ _ (by simp) (by simp)).mono ?_); rintro e w' ⟨rfl, rfl⟩) | (go_at_fn 55; (with_reducible refine (HCA.out _ (by repeat (first | exact H0.out | assumption | apply HD.out | apply HA.out))).mono ?_); rintro e w' ⟨rfl, rfl⟩) | (go_at_fn 55; (with_reducible refine (HCB.out _ (by repeat (first | exact H0.out | assumption | apply HD.out | apply HA.out))).mono ?_); rintro e w' ⟨rfl, rfl⟩))
  all_goals
    go_wp2_with fail
    go_ret
    exact ⟨rfl, HE.out _ (by repeat (first | exact H0.out | assumption | apply HD.out | apply HA.out))⟩
end Go.Proofs.YtonlbcibfbbpgaaGreat.Od
namespace Go.Proofs.YtonlbcibfbbpgaaGreat.Od
open Go.RowKit Go.Lib Rw Ls St _root_.Go.Proofs.YtonlbcibfbbpgaaGreat.Nm

theorem against_any (n c s : Nat) (p : Option Addr) (R : List Nat) (w : World) (hr : Rd w p (zs (up R))) (hn : R.length = n) :
    Calls Tryz.prog 35 #[.slice p n c, .int .i64 s] w fun e w' => e = .returned (.func (.func 56) #[] #[.pointer (some ⟨w.heap.size, 0, none⟩), .pointer (some ⟨w.heap.size + 2, 0, none⟩)]) ∧ Cap w' w.heap.size (w.heap.size + 1) (w.heap.size + 2) n c s p R ∧ Below w.heap.size w w' := by
  have HR := Lib.hid hr; have HN := Lib.hid hn
  clear hr hn
  go_enter Tryz.func35, Tryz.ntmps35
  go_wp2
  go_ret
  refine ⟨rfl, ⟨?_, ?_, ?_, by simp <;> omega, by simp <;> omega, by simp <;> omega, ?_, HN.out⟩, ?_⟩
  · go_simp
  · go_simp
  · go_simp
  · exact ((HR.out.alloc _).alloc _).alloc _
  · exact (((Below.refl _ w).alloc (Nat.le_refl _) _).alloc (by simp) _).alloc (by simp <;> omega) _
/-- a row of places that may be written -/
structure Zr (w : World) (g n : Nat) (E : List Nat) : Prop where
  len : E.length = n
  lt : g < w.heap.size
  cell : ∀ i, i < n → w.cell? ⟨g, i, none⟩ = some (.int .i64 (E.getD i 0 : Nat))
  free : ∀ i, i < n → w.frozen? ⟨g, i, none⟩ = false
section
variable {w w' : World} {g n : Nat} {E : List Nat}
theorem Zr.bar (h : Zr w g n E) {q : Nat → Prop} (hb : Bar w w' q) (hg : ¬ q g) : Zr w' g n E :=
  ⟨h.len, Nat.lt_of_lt_of_le h.lt hb.size, fun i hi => (hb.cell (a := ⟨g, i, none⟩) h.lt hg).trans (h.cell i hi), fun i hi => (hb.frozen (a := ⟨g, i, none⟩) h.lt hg).trans (h.free i hi)⟩
theorem Zr.below (h : Zr w g n E) (hb : Below w.heap.size w w') : Zr w' g n E := h.bar (Bar.of_below hb (fun _ => False)) id
theorem Zr.rd (h : Zr w g n E) : Rd w (some ⟨g, 0, none⟩) (zs (up E)) := fun i hi => by
  rw [zs_length, up_length, h.len] at hi
  have e1 : ((⟨g, 0, none⟩ : Addr).add i) = ⟨g, i, none⟩ := by simp [Addr.add] <;> omega
  refine ⟨_, rfl, h.lt, ?_⟩
  rw [e1, h.cell i hi]
  have hi2 : i < E.length := by rw [h.len]; exact hi
  simp [zs, up, List.getD_eq_getElem?_getD, hi2]
theorem Zr.fz (h : Zr w g n E) : Fz w (some ⟨g, 0, none⟩) n := fun a e i hi => by
  cases e
  have e1 : ((⟨g, 0, none⟩ : Addr).add i) = ⟨g, i, none⟩ := by simp [Addr.add] <;> omega
  rw [e1]; exact h.free i hi
theorem Zr.of_arr {B : Nat} {e : TypeId} (h : Arr w B e g n (zs (up E))) : Zr w g n E := by
  have hl := h.len
  rw [zs_length, up_length] at hl
  refine ⟨hl, h.lt.2, fun i hi => ?_, fun i hi => h.free i⟩
  rw [h.cell hi]
  have hi2 : i < E.length := by rw [hl]; exact hi
  simp [zs, up, List.getD_eq_getElem?_getD, hi2]
end
theorem sw_bar {α : Type} [Inhabited α] {enc : α → Value} {w0 W : World} {blk off : Nat} {d : Array α} (h : SW enc w0 blk off d W) : Bar w0 W (fun k => k = blk) := by
  obtain ⟨n, os, rfl⟩ := h
  refine ⟨rfl, rfl, rfl, ?_, fun k hk hne => ?_⟩
  · unfold sortWorld; rw [Go.Sort.size_grow, size_putRow]; exact Nat.le_add_right _ _
  · have hs : k < (Go.Sort.putRow enc (Go.Sort.ahead w0 n) blk off d).heap.size := by rw [size_putRow]; exact hk
    unfold sortWorld
    rw [Go.Sort.heap_grow_old _ _ hs]
    simp only [Go.Sort.putRow, Go.Sort.mapBlock, Array.getElem?_modify]
    rw [if_neg (fun e => hne e.symm)]
    rfl
theorem fins {n : Nat} : ∀ (E : List Nat), (∀ x ∈ E, x < n) → ∃ D : List (Fin n), D.map Fin.val = E
  | [], _ => ⟨[], rfl⟩
  | x :: E, h => by
    obtain ⟨D, hD⟩ := fins E (fun y hy => h y (List.mem_cons_of_mem _ hy))
    exact ⟨⟨x, h x List.mem_cons_self⟩ :: D, by rw [List.map_cons, hD]⟩
theorem ext_all {α : Type} (a : Array α) (m : Nat) (h : a.size = m) : a.extract 0 m = a := by subst h; simp
/-- ends put in order -/
def SfP (l : List Nat) (s g n : Nat) (w : World) (e : Ending) (w' : World) : Prop := ∃ E, e = .returned (.tuple #[]) ∧ Sorts2 l E (s + s) ∧ Zr w' g n E ∧ Bar w w' (fun k => k = g)
theorem sortfunc_any (l R E : List Nat) (s g cap n b2 b3 b5 c : Nat) (p : Option Addr) (w : World) (hn : n = l.length) (h1 : 1 ≤ n) (hs : 1 ≤ s) (hsb : s ≤ 10000000000) (hl : n ≤ 1000000000) (hI : IsR l R s) (hE : E.Perm (List.range n)) (hZ : Zr w g n E)
    (hC : Cap w b2 b3 b5 n c s p R) (n2 : b2 ≠ g) (n3 : b3 ≠ g) (n5 : b5 ≠ g) (hp : ∀ a, p = some a → a.block ≠ g) :
    Calls Tryz.prog 36 #[.slice (some ⟨g, 0, none⟩) n cap, .func (.func 56) #[] #[.pointer (some ⟨b2, 0, none⟩), .pointer (some ⟨b5, 0, none⟩)]] w (SfP l s g n w) := by
  obtain ⟨D, hD⟩ := fins (n := n) E (fun x hx => List.mem_range.1 (hE.mem_iff.1 hx))
  have hDl : D.length = n := by have := congrArg List.length hD; rw [List.length_map, hZ.len] at this; exact this
  haveI : Inhabited (Fin n) := ⟨⟨0, h1⟩⟩
  have hcell : ∀ (D : List (Fin n)) (i : Nat), i < D.length → (((D.map Fin.val).getD i 0 : Nat) : Int) = ((D.toArray[i]!).val : Int) := fun D i hi => by simp [List.getD_eq_getElem?_getD, hi]
  have hlt : ∀ x y : Fin n, (ltOf (fun x y : Fin n => cf R s x.val y.val) x y = true) ↔ lexL (pre l (s + s) x.val) (pre l (s + s) y.val) = true := fun x y => by
    unfold ltOf
    rw [decide_eq_true_eq]
    exact cf_lt hI hs (by rw [← hn]; exact x.2) (by rw [← hn]; exact y.2)
  have hlf : ∀ x y : Fin n, (ltOf (fun x y : Fin n => cf R s x.val y.val) x y = false) ↔ lexL (pre l (s + s) x.val) (pre l (s + s) y.val) = false := fun x y => by
    have := hlt x y
    rw [← Bool.not_eq_true, ← Bool.not_eq_true, this]
  have hO : Go.Sort.SWO (ltOf fun x y : Fin n => cf R s x.val y.val) :=
    ⟨fun x => (hlf x x).2 (lexL_same _), fun x y z a b => (hlt x z).2 (lexL_trans _ _ _ ((hlt x y).1 a) ((hlt y z).1 b)), fun x y z a b => (hlf x z).2 (lexL_ntrans ((hlf x y).1 a) ((hlf y z).1 b))⟩
  have hH : Go.Sort.Holds (fun x : Fin n => Value.int .i64 (x.val : Int)) w g 0 D.toArray := fun j hj => by
    have hj2 : j < D.length := by simpa using hj
    rw [Nat.zero_add]
    refine ⟨?_, hZ.free j (by omega)⟩
    rw [hZ.cell j (by omega), ← hD, hcell D j hj2]
  have C := Tryz.slices_SortFunc (fun x : Fin n => Value.int .i64 (x.val : Int)) (fun _ => rfl) (fun x y => cf R s x.val y.val) hO 56 #[.pointer (some ⟨b2, 0, none⟩), .pointer (some ⟨b5, 0, none⟩)] g 0 cap D.toArray w versus_enters
    (fun m os dk hdk x y => by
      have hb := sw_bar (w0 := w) (blk := g) (off := 0) (d := dk) (enc := fun x : Fin n => Value.int .i64 (x.val : Int)) ⟨m, os, rfl⟩
      exact versus_any x.val y.val s b2 b3 b5 n c p R _ (hC.bar hb n2 n3 n5 (fun a e => hp a e)) hl hsb x.2 y.2) hH hZ.lt (by simp [hDl]; omega)
  rw [List.size_toArray, hDl] at C
  refine C.mono ?_
  rintro e w' ⟨rfl, d', z, os, hp', hs', rfl⟩
  have hsz : d'.size = n := by have := hp'.1; simpa [hDl] using this
  have hb := sw_bar (w0 := w) (blk := g) (off := 0) (d := d') (enc := fun x : Fin n => Value.int .i64 (x.val : Int)) ⟨z, os, rfl⟩
  have hH2 : Go.Sort.Holds (fun x : Fin n => Value.int .i64 (x.val : Int)) (sortWorld (fun x : Fin n => Value.int .i64 (x.val : Int)) w g 0 z d' os) g 0 d' := holds_sortWorld _ _ _ _ _ D.toArray d' os hZ.lt hH (by simp [hsz, hDl])
  refine ⟨d'.toList.map Fin.val, rfl, ⟨?_, ?_⟩, ⟨by simp [hsz], Nat.lt_of_lt_of_le hZ.lt hb.size, fun i hi => ?_, fun i hi => ?_⟩, hb⟩
  · have h2 := hp'.2.2
    have e1 : d'.extract 0 n = d' := ext_all _ _ hsz
    have e2 : D.toArray.extract 0 n = D.toArray := ext_all _ _ (by simp [hDl])
    rw [e1, e2] at h2
    have h3 := (h2.map Fin.val)
    rw [List.toList_toArray, hD] at h3
    rw [← hn]
    exact h3.trans hE
  · intro i j hij hj
    have hj2 : j < d'.size := by simpa using hj
    have hi2 : i < d'.size := Nat.lt_trans hij hj2
    have h2 := hs' i j (Nat.zero_le _) hij (by omega)
    rw [hlf] at h2
    simp only [getElem!_pos d' i hi2, getElem!_pos d' j hj2] at h2
    simpa [List.getD_eq_getElem?_getD, hi2, hj2] using h2
  · have := (hH2 i (by omega)).1
    rw [Nat.zero_add] at this
    rw [this, hcell d'.toList i (by simp [hsz, hi])]
  · have := (hH2 i (by omega)).2
    rw [Nat.zero_add] at this
    exact this
end Go.Proofs.YtonlbcibfbbpgaaGreat.Od
