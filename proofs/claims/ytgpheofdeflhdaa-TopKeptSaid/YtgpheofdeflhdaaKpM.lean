/- TopKept: what is used of bits; a record's own bytes; what is kept. -/
import Derived.Test.YtgpheofdeflhdaaBitLives
import Derived.Test.YtgpheofdeflhdaaNumRecC
import Derived.Test.YtgpheofdeflhdaaNumLess
import Derived.Test.YtgpheofdeflhdaaDkThyS
import Derived.Deep.Slices
import Derived.Deep.SlicePairs
import Derived.OpenShut
import Derived.SizedLaws
import Derived.Lib.SmallJoins
namespace Go.Proofs.Ytgpheofdeflhdaa.Kp
open Go.RowKit Bt Rw

theorem gv : getV ⟨#[160]⟩ 3 0 3 = 5 ∧ getE ⟨#[160]⟩ 3 0 3 = 0 := by decide +kernel

set_option maxHeartbeats 4000000 in
set_option maxRecDepth 100000 in
theorem begins_any (w : World) : Calls Try.prog 4 #[] w fun e w' => e = .returned (.bool true) ∧ Below w.heap.size w w' := by
  go_enter Try.func4, Try.ntmps4
  go_wp2_with fail
  refine (put_top ⟨#[]⟩ 0 5 3 _ (small (by decide)) (by decide)).mono ?_
  rintro e w1 ⟨rfl, b1⟩
  rw [px1, px2, px3]
  have x1 := Box.new w1 ⟨#[160]⟩ 3
  have c0 := x1.c0; have c1 := x1.c1
  have B1 := Lib.hid (b1.alloc b1.size (.cells #[.string ⟨#[160]⟩, .int .i64 3] 48)); have X1 := Lib.hid x1
  clear b1 x1
  go_wp2_with fail
  refine (get_any ⟨#[160]⟩ 3 0 3 _ (small (by decide))).mono ?_
  rintro e w2 ⟨rfl, b2⟩
  rw [gv.1, gv.2]
  have x2 := X1.out.below b2
  have d0 := x2.c0; have d1 := x2.c1
  have B2 := Lib.hid (B1.out.trans (b2.mono B1.out.size))
  clear b2 x2 X1 B1 c0 c1
  go_wp2_with fail
  go_ret
  exact ⟨rfl, B2.out⟩


end Go.Proofs.Ytgpheofdeflhdaa.Kp
namespace Go.Proofs.Ytgpheofdeflhdaa.Nm
open Go.RowKit Rw

def joinR (K : List (List Nat)) : List UInt8 := K.flatMap fives
theorem joinR_cons (L : List Nat) (K : List (List Nat)) : joinR (L :: K) = fives L ++ joinR K := by simp [joinR]
theorem recL_fives (L : List Nat) (r : List UInt8) (h : ∀ n ∈ L, n < 1099511627776) : recL (fives L ++ r) L.length = L := by
  induction L with
  | nil => rfl
  | cons n L ih =>
    have e1 : fives (n :: L) = fiveL n ++ fives L := by simp [fives]
    have ih2 := ih (fun k hk => h k (by simp [hk]))
    unfold recL at ih2 ⊢
    rw [List.length_cons, List.range_succ_eq_map, List.map_cons, List.map_map, e1, List.append_assoc]
    congr 1
    · rw [Nat.mul_zero, List.drop_zero]
      have e2 : (fiveL n ++ (fives L ++ r)).take 5 = fiveL n := List.take_left' rfl
      rw [e2, ofL_five n (h n (by simp))]
theorem recsN_join (n : Nat) : ∀ (K : List (List Nat)), (∀ L ∈ K, L.length = n ∧ ∀ k ∈ L, k < 1099511627776) → recsN (joinR K) n K.length = K
  | [], _ => rfl
  | L :: K, h => by
    have ih := recsN_join n K (fun L hL => h L (by simp [hL]))
    have hL := h L (by simp)
    unfold recsN at ih ⊢
    rw [List.length_cons, List.range_succ_eq_map, List.map_cons, List.map_map, joinR_cons]
    have e0 : recL ((fives L ++ joinR K).drop (5 * n * 0)) n = L := by
      rw [Nat.mul_zero, List.drop_zero]
      have := recL_fives L (joinR K) hL.2
      rwa [hL.1] at this
    rw [e0]
    congr 1
    have key : ∀ k, (fives L ++ joinR K).drop (5 * n * (k + 1)) = (joinR K).drop (5 * n * k) := fun k => by
      rw [Nat.mul_add, Nat.mul_one, Nat.add_comm, ← List.drop_drop]
      have e4 : (fives L ++ joinR K).drop (5 * n) = joinR K := List.drop_left' (by rw [fives_length, hL.1])
      rw [e4]
    calc (List.range K.length).map ((fun i => recL ((fives L ++ joinR K).drop (5 * n * i)) n) ∘ Nat.succ) = (List.range K.length).map (fun i => recL ((joinR K).drop (5 * n * i)) n) := by
          apply List.map_congr_left
          intro k _
          simp only [Function.comp, Nat.succ_eq_add_one, key]
      _ = K := ih


/-- a record's own bytes are split to the record -/
theorem split_own {L : List Nat} (h : recOk L) : spE (recS L).data.toList L.length = 0 ∧ spM (recS L).data.toList L.length = [L] := by
  have hb : (recS L).data.toList = fives L := by unfold recS; rw [if_pos h]; simp [ofB]
  obtain ⟨h1, h8, hb2⟩ := h
  have he : spE (fives L) L.length = 0 := by
    unfold spE
    rw [if_neg (by omega), if_neg]
    rw [fives_length, Int.toNat_natCast, Nat.mod_self]
    simp
  rw [hb]
  refine ⟨he, ?_⟩
  unfold spM
  rw [if_pos he, Int.toNat_natCast, fives_length, Nat.div_self (by omega)]
  have := recsN_join L.length [L] (fun K hK => by
    rw [List.mem_singleton] at hK
    subst hK
    exact ⟨rfl, hb2⟩)
  have hj : joinR [L] = fives L := by simp [joinR]
  rw [hj] at this
  exact this
theorem recS_size {L : List Nat} (h : recOk L) : (recS L).size = 5 * L.length ∧ (recS L).size ≤ 40 := by
  have hb : (recS L).data.toList = fives L := by unfold recS; rw [if_pos h]; simp [ofB]
  have e : (recS L).size = (recS L).data.toList.length := Lib.size_eq _
  rw [hb, fives_length] at e
  have := h.2.1
  omega
end Go.Proofs.Ytgpheofdeflhdaa.Nm
namespace Go.Proofs.Ytgpheofdeflhdaa.Dk
open Go.RowKit Go.Op

def nA : ByteArray := ⟨#[97]⟩
def kD1 : Dsk := ⟨8, [(nA, zer 256)], [], -1, false⟩
theorem kp1 : mkD 8 = ⟨8, [], [], -1, false⟩ ∧ mkE 8 = 0 := ⟨by kernel_rfl, by kernel_rfl⟩
theorem kp2 : nwD (mkD 8) nA 4 = kD1 ∧ nwE (mkD 8) nA 4 = 0 := ⟨by kernel_rfl, by kernel_rfl⟩
theorem kp3 : rdy kD1 = 0 := by kernel_rfl
theorem kp_look : isAt kD1.E nA = true ∧ lookN kD1.E nA = 4 := ⟨by kernel_rfl, by kernel_rfl⟩
theorem kp_find (c : Int) : findE kD1.E nA c = if 0 ≤ c ∧ c < 4 then 0 else 1 := by
  unfold findE
  rw [if_pos kp_look.1, kp_look.2]
  by_cases h : 0 ≤ c ∧ c < 4
  · rw [if_pos h, decide_eq_true h.1, decide_eq_true (show c < ((4 : Nat) : Int) by omega)]; rfl
  · rw [if_neg h, if_neg]
    rw [Bool.and_eq_true, decide_eq_true_eq, decide_eq_true_eq]
    omega
theorem kp_write (c : Int) (d : ByteArray) (hd : d.size = 64) : wtE kD1 nA c d = if 0 ≤ c ∧ c < 4 then 0 else 1 := by
  unfold wtE
  rw [chgR_ok kp3]
  unfold wrE
  rw [kp_find]
  by_cases h : 0 ≤ c ∧ c < 4
  · rw [if_pos h, if_pos rfl, if_pos hd]
    rfl
  · rw [if_neg h, if_neg (by decide)]
/-- written, and synced: what there is -/
theorem kp_sync {c : Int} {d : ByteArray} (h : wtE kD1 nA c d = 0) : syE (wtD kD1 nA c d) = 0 ∧ Safe (syD (wtD kD1 nA c d)) (syD (wtD kD1 nA c d)) nA c [d] ∧ findE (syD (wtD kD1 nA c d)).E nA c = 0 := by
  obtain ⟨h0, h1, h2, h3, h4⟩ := wt_eq h
  have hr := wt_read h nA c
  have hs := sy_read h4 nA c
  have hE : rdE (syD (wtD kD1 nA c d)) nA c = 0 := by rw [hs.1, hr.1, rdE_ok h0]; exact h1
  have hO : rdO (syD (wtD kD1 nA c d)) nA c = d := by rw [hs.2, hr.2, if_pos ⟨rfl, rfl⟩]
  have := Safe.start h4 hE
  rw [hO] at this
  exact ⟨(sy_eq h4).1, this.1, this.2⟩
/-- a write elsewhere -/
theorem kp_more {D1 Dk : Dsk} {c : Int} {d : ByteArray} (h : Safe D1 Dk nA c [d]) (x : ByteArray) (sx : Int) (y : ByteArray) (hne : ¬ (x = nA ∧ sx = c)) : Safe D1 (wtD Dk x sx y) nA c [d] := by
  by_cases he : wtE Dk x sx y = 0 ∨ wtE Dk x sx y = 10
  · rcases wt_any h.ck x sx y he with ⟨_, _, e⟩ | ⟨_, _, e1, e2, e3⟩ | ⟨_, _, e1, e2, e3, _⟩
    · rw [e]; exact h
    · exact (h.more e1 e3 e2).2 hne
    · exact (h.more e1 e3 e2).2 hne
  · have e : wtD Dk x sx y = Dk := by
      have hr := rdy_ck h.ck
      by_cases hd : Dk.down = true
      · rw [if_pos hd] at hr
        exfalso
        exact he (.inr (by unfold wtE; rw [chgR_if, hr, if_neg (by decide), if_neg (by decide)]))
      · rw [if_neg hd] at hr
        unfold wtD
        rw [chg_ok hr]
        unfold wrD
        rw [if_neg]
        rintro ⟨g1, g2, g3⟩
        apply he
        unfold wtE
        rw [chgR_ok hr]
        unfold wrE
        rw [if_pos g1, if_pos g2, if_neg g3]
        by_cases hz : Dk.fuse = 0
        · rw [if_pos hz]; exact .inr rfl
        · rw [if_neg hz]; exact .inl rfl
    rw [e]; exact h
theorem kp_crash {D1 Dk : Dsk} {c : Int} {d : ByteArray} (h : Safe D1 Dk nA c [d]) (hf : findE D1.E nA c = 0) (K : List Bool) : ckE Dk = 0 ∧ rdE (crD Dk K) nA c = 0 ∧ rdO (crD Dk K) nA c = d := by
  obtain ⟨h1, h2, _⟩ := h.crash hf K
  exact ⟨h.ck, h1, by simpa using h2⟩
end Go.Proofs.Ytgpheofdeflhdaa.Dk
