/- The walk of the law NumParts. -/
import Derived.Test.YtjbbkcnfilnmcaaNumLawD
namespace Go.Proofs.Ytjbbkcnfilnmcaa.Nm
open Go.RowKit Rw Go.Op

/-- slice headers of records, as the argument has them -/
def FitA (w : World) : List Value → List (List Nat) → Prop
  | [], [] => True
  | x :: xs, L :: M => (∃ q c, x = .slice q L.length c ∧ Rd w q (nums L)) ∧ FitA w xs M
  | _, _ => False
theorem FitA.snoc {w : World} {x : Value} {L : List Nat} (hx : ∃ q c, x = .slice q L.length c ∧ Rd w q (nums L)) : ∀ {xs : List Value} {M : List (List Nat)}, FitA w xs M → FitA w (xs ++ [x]) (M ++ [L])
  | [], [], _ => ⟨hx, trivial⟩
  | _ :: _, _ :: _, ⟨h, r⟩ => ⟨h, FitA.snoc hx r⟩
  | [], _ :: _, h => h.elim
  | _ :: _, [], h => h.elim
theorem FitA.length {w : World} : ∀ {xs : List Value} {M : List (List Nat)}, FitA w xs M → xs.length = M.length
  | [], [], _ => rfl
  | _ :: _, _ :: _, ⟨_, r⟩ => by simp [FitA.length r]
  | [], _ :: _, h => h.elim
  | _ :: _, [], h => h.elim
theorem FitA.at {w : World} : ∀ {xs : List Value} {M : List (List Nat)}, FitA w xs M → ∀ i, i < M.length → ∃ q c, xs.getD i (.bool false) = .slice q (M.getD i []).length c ∧ Rd w q (nums (M.getD i []))
  | [], [], _, i, hi => absurd hi (by simp)
  | x :: xs, L :: M, ⟨h, r⟩, 0, _ => by simpa using h
  | x :: xs, L :: M, ⟨h, r⟩, i + 1, hi => by simpa using FitA.at r i (by simpa using hi)
  | [], _ :: _, h, _, _ => h.elim
  | _ :: _, [], h, _, _ => h.elim
theorem recsAt_fit {w w' : World} {B : Nat} {A : Option Addr} {n cap : Nat} {xs : List Value} {M : List (List Nat)} (hb : Below w.heap.size w w') (h : w'.ownsRow B 42 1 (.slice A n cap) n xs) (hf : FitA w xs M) (hm : ∀ L ∈ M, L.length ≤ 8) : RecsAt w' A M := by
  intro i hi
  obtain ⟨a, e, hl, hc⟩ := (Rd.of_own h) i (by rw [hf.length]; exact hi)
  obtain ⟨q, c, hv, hr⟩ := hf.at i hi
  rw [hv] at hc
  have h8 : (M.getD i []).length ≤ 8 := hm _ (by rw [List.getD_eq_getElem?_getD, List.getElem?_eq_getElem hi]; exact List.getElem_mem hi)
  exact ⟨a, q, c, e, hl, hc, hr.below hb, by omega⟩

/-- records one behind the other -/
def joinR (K : List (List Nat)) : List UInt8 := K.flatMap fives
theorem joinR_cons (L : List Nat) (K : List (List Nat)) : joinR (L :: K) = fives L ++ joinR K := by simp [joinR]
theorem joinR_snoc (L : List Nat) (K : List (List Nat)) : joinR (K ++ [L]) = joinR K ++ fives L := by simp [joinR]
theorem joinR_length (n : Nat) : ∀ (K : List (List Nat)), (∀ L ∈ K, L.length = n) → (joinR K).length = 5 * n * K.length
  | [], _ => by simp [joinR]
  | L :: K, h => by
    rw [joinR_cons, List.length_append, fives_length, joinR_length n K (fun L hL => h L (by simp [hL])), h L (by simp), List.length_cons, Nat.mul_add]; omega
theorem recL_fives (L : List Nat) (r : List UInt8) (h : ∀ n ∈ L, n < 1099511627776) : recL (fives L ++ r) L.length = L := by
  induction L with
  | nil => rfl
  | cons n L ih =>
    have e1 : fives (n :: L) = fiveL n ++ fives L := by simp [fives]
    have ih2 := ih (fun k hk => h k (by simp [hk]))
    unfold recL at ih2 ⊢
    rw [List.length_cons, List.range_succ_eq_map, List.map_cons, List.map_map, e1, List.append_assoc]
    congr 1
    · rw [Nat.mul_zero, List.drop_zero]
      have e2 : (fiveL n ++ (fives L ++ r)).take 5 = fiveL n := List.take_left' rfl
      rw [e2, ofL_five n (h n (by simp))]
theorem recsN_join (n : Nat) : ∀ (K : List (List Nat)), (∀ L ∈ K, L.length = n ∧ ∀ k ∈ L, k < 1099511627776) → recsN (joinR K) n K.length = K
  | [], _ => rfl
  | L :: K, h => by
    have ih := recsN_join n K (fun L hL => h L (by simp [hL]))
    have hL := h L (by simp)
    unfold recsN at ih ⊢
    rw [List.length_cons, List.range_succ_eq_map, List.map_cons, List.map_map, joinR_cons]
    have e0 : recL ((fives L ++ joinR K).drop (5 * n * 0)) n = L := by
      rw [Nat.mul_zero, List.drop_zero]
      have := recL_fives L (joinR K) hL.2
      rwa [hL.1] at this
    rw [e0]
    congr 1
    have key : ∀ k, (fives L ++ joinR K).drop (5 * n * (k + 1)) = (joinR K).drop (5 * n * k) := fun k => by
      rw [Nat.mul_add, Nat.mul_one, Nat.add_comm, ← List.drop_drop]
      have e4 : (fives L ++ joinR K).drop (5 * n) = joinR K := List.drop_left' (by rw [fives_length, hL.1])
      rw [e4]
    calc (List.range K.length).map ((fun i => recL ((fives L ++ joinR K).drop (5 * n * i)) n) ∘ Nat.succ) = (List.range K.length).map (fun i => recL ((joinR K).drop (5 * n * i)) n) := by
          apply List.map_congr_left
          intro k _
          simp only [Function.comp, Nat.succ_eq_add_one, key]
      _ = K := ih

theorem cell_lt0 {w : World} {a : Addr} {k : Nat} {v : Value} (h : w.cell? (a.add k) = some v) : (a.add k).block < w.heap.size := by
  rcases Nat.lt_or_ge (a.add k).block w.heap.size with hl | hl
  · exact hl
  · unfold World.cell? at h
    rw [Array.getElem?_eq_none hl] at h
    cases h
theorem split_at (s : ByteArray) (wd : Int) (w : World) (hs : s.size ≤ 2000000) (M : List (List Nat)) (E : Int) (hM : spM s.data.toList wd = M) (hE : spE s.data.toList wd = E) :
    Calls Try.prog 30 #[.string s, .int .i64 wd] w (SplitPost w M E) := by
  subst hM; subst hE
  exact split_any s wd w hs
theorem rec_E (L : List Nat) : (recE L == 0) = decide (recOk L) := by
  unfold recE
  by_cases h : recOk L
  · rw [if_pos h, decide_eq_true h]; rfl
  · rw [if_neg h, decide_eq_false h]; rfl
theorem recS_small (L : List Nat) : (recS L).size ≤ 40 := by
  unfold recS
  by_cases h : recOk L
  · rw [if_pos h, ofB_size, fives_length]; have := h.2.1; omega
  · rw [if_neg h]; decide

set_option maxHeartbeats 16000000 in
set_option maxRecDepth 100000 in
theorem parts_law (M : List (List Nat)) (p : Option Addr) (c : Nat) (wd : Int) (w : World) (hp : RecsAt w p M) (hm : M.length ≤ 9223372036854775807) :
    Calls Try.prog 9 #[.slice p M.length c, .int .i64 wd] w fun e w' => e = .returned (.bool true) ∧ Below w.heap.size w w' := by
  obtain ⟨i0, hi, hz0, hz1, hz2⟩ := info_parts info_u64s
  have HP := Lib.hid hp
  clear hp
  obtain ⟨m, hmm⟩ : ∃ m, m = M.length := ⟨_, rfl⟩
  rw [← hmm]; rw [← hmm] at hm
  have HM := Lib.hid hmm
  clear hmm
  go_enter Try.func9, Try.ntmps9
  go_wp2_with fail
  refine (lives_any _).mono ?_
  rintro e w1 ⟨rfl, b⟩
  have B1 := Lib.hid b; clear b
  go_wp2_with fail
  go_loopw [5, 6, 7, 8, 9, 10, 19] (fun S u _ _ _ _ i wr => ∃ (k : Nat) (T : ByteArray) (K : List (List Nat)) (xs : List Value) (n3 : Nat), k ≤ m ∧ i = .int .i64 k ∧ S = .string T ∧ T = ofB (joinR K) ∧ n3 = K.length ∧ n3 ≤ 40 ∧ n3 ≤ k ∧ (∀ L ∈ K, (L.length : Int) = wd ∧ recOk L) ∧ wr.ownsRow w.heap.size 42 1 u n3 xs ∧ FitA w xs K ∧ Below w.heap.size w wr) (fun _ _ _ _ _ _ i _ => m - (intOf i).toNat)
  case atStart => exact ⟨0, ⟨#[]⟩, [], [], 0, by omega, rfl, rfl, rfl, rfl, by omega, by omega, fun L hL => absurd hL (by simp), World.ownsRow_nil _ _ _ _, trivial, B1.out⟩
  case round =>
    obtain ⟨k, T, K, xs, n3, hk, rfl, rfl, hT, hn3, h40, h3k, hall, hown, hfit, hbl⟩ := hrel
    have hTs : T.size ≤ 1600 := by
      rw [hT, ofB_size]
      have : ∀ K : List (List Nat), (∀ L ∈ K, recOk L) → (joinR K).length ≤ 40 * K.length := by
        intro K
        induction K with
        | nil => intro _; simp [joinR]
        | cons L K ih =>
          intro h
          have h1 := ih (fun X hX => h X (by simp [hX]))
          have h2 := (h L (by simp)).2.1
          rw [joinR_cons, List.length_append, fives_length, List.length_cons]; omega
      have := this K (fun L hL => (hall L hL).2)
      omega
    have HT := Lib.hid hT; have HN3 := Lib.hid hn3; have HALL := Lib.hid hall; have HO := Lib.hid hown; have HFIT := Lib.hid hfit; have HBL := Lib.hid hbl
    have hz := hbl.size
    clear hT hn3 hall hown hfit hbl
    by_cases hlt : k < m
    · obtain ⟨a, q0, c0, rfl, _, ca0, hr0, hl0⟩ := HP.out k (by rw [← HM.out]; exact hlt)
      obtain ⟨a', q2, c2, ea, _, ca, hr, _⟩ := (HP.out.below HBL.out) k (by rw [← HM.out]; exact hlt)
      injection ea with ea
      subst ea
      have hcc : (Value.slice q2 (M.getD k []).length c2) = .slice q0 (M.getD k []).length c0 := by
        have e2 := HBL.out.cell (p := a.add k) (by have := cell_lt0 ca0; exact this)
        rw [ca, ca0] at e2
        injection e2
      injection hcc with hq _ hc
      subst hq; subst hc
      obtain ⟨L, hL⟩ : ∃ L, L = M.getD k [] := ⟨_, rfl⟩
      rw [← hL] at ca hr hr0 hl0
      obtain ⟨n2, hne2⟩ : ∃ n2, n2 = L.length := ⟨_, rfl⟩
      rw [← hne2] at ca hl0
      have hn2b : n2 ≤ 9223372036854775807 := hl0
      have RL := Lib.hid hr; have R0 := Lib.hid hr0; have HN2 := Lib.hid hne2
      obtain ⟨S2, hS2⟩ : ∃ S, S = recS L := ⟨_, rfl⟩
      obtain ⟨E2, hE2⟩ : ∃ E, E = recE L := ⟨_, rfl⟩
      have hS2s : S2.size ≤ 40 := by rw [hS2]; exact recS_small L
      have g1 : (E2 == 0) = decide (recOk L) := by rw [hE2]; exact rec_E L
      have HS2 := Lib.hid hS2; have HE2 := Lib.hid hE2
      have hn2 : n2 ≤ 9223372036854775807 := hl0
      clear ca0 hL hr hr0 hl0 hS2 hE2 hn2b hne2
      by_cases h1 : k < 40
      case neg =>
        have t1 : decide ((k : Int) < 40) = false := decide_eq_false (by omega)
        clear g1
        go_wp2_with fail
        refine (record_at L q2 c2 n2 HN2.out _ RL.out hn2).mono ?_
        rw [← HS2.out, ← HE2.out]
        rintro e w1 ⟨rfl, b⟩
        have B2 := Lib.hid (HBL.out.trans (b.mono HBL.out.size)); have O2 := Lib.hid (own_below HO.out b)
        have hz2 := b.size
        clear b
        go_wp2_with fail
        go_roundw
        case rel => exact ⟨k + 1, T, K, xs, n3, by omega, by go_num, rfl, HT.out, HN3.out, h40, by omega, HALL.out, O2.out, HFIT.out, B2.out⟩
        case measure => simp [intOf]; omega
      by_cases h2 : recOk L
      case neg =>
        rw [decide_eq_false h2] at g1
        clear h2
        go_wp2_with fail
        refine (record_at L q2 c2 n2 HN2.out _ RL.out hn2).mono ?_
        rw [← HS2.out, ← HE2.out]
        rintro e w1 ⟨rfl, b⟩
        have B2 := Lib.hid (HBL.out.trans (b.mono HBL.out.size)); have O2 := Lib.hid (own_below HO.out b)
        have hz2 := b.size
        clear b
        go_wp2_with fail
        go_roundw
        case rel => exact ⟨k + 1, T, K, xs, n3, by omega, by go_num, rfl, HT.out, HN3.out, h40, by omega, HALL.out, O2.out, HFIT.out, B2.out⟩
        case measure => simp [intOf]; omega
      rw [decide_eq_true h2] at g1
      by_cases h3 : (n2 : Int) = wd
      case neg =>
        have t3 : ((n2 : Int) == wd) = false := by rw [beq_eq_false_iff_ne]; exact h3
        clear h2 h3
        go_wp2_with fail
        refine (record_at L q2 c2 n2 HN2.out _ RL.out hn2).mono ?_
        rw [← HS2.out, ← HE2.out]
        rintro e w1 ⟨rfl, b⟩
        have B2 := Lib.hid (HBL.out.trans (b.mono HBL.out.size)); have O2 := Lib.hid (own_below HO.out b)
        have hz2 := b.size
        clear b
        go_wp2_with fail
        go_roundw
        case rel => exact ⟨k + 1, T, K, xs, n3, by omega, by go_num, rfl, HT.out, HN3.out, h40, by omega, HALL.out, O2.out, HFIT.out, B2.out⟩
        case measure => simp [intOf]; omega
      have t3 : ((n2 : Int) == wd) = true := by rw [beq_iff_eq]; exact h3
      have HALL2 : Hid (∀ X ∈ K ++ [L], (X.length : Int) = wd ∧ recOk X) := Lib.hid (fun X hX => by
        rcases List.mem_append.1 hX with h | h
        · exact HALL.out X h
        · rw [List.mem_singleton] at h
          subst h
          exact ⟨by rw [← HN2.out]; exact h3, h2⟩)
      have HT2 : Hid (T ++ S2 = ofB (joinR (K ++ [L]))) := Lib.hid (by
        rw [HT.out, HS2.out, joinR_snoc]; unfold recS; rw [if_pos h2, app_data])
      have HFIT2 := Lib.hid (FitA.snoc ⟨q2, c2, by rw [← HN2.out], R0.out⟩ HFIT.out)
      have HN32 : Hid (n3 + 1 = (K ++ [L]).length) := Lib.hid (by rw [List.length_append, ← HN3.out]; rfl)
      clear h2 h3
      go_wp2_with fail
      refine (record_at L q2 c2 n2 HN2.out _ RL.out hn2).mono ?_
      rw [← HS2.out, ← HE2.out]
      rintro e w1 ⟨rfl, b⟩
      have B2 := Lib.hid (HBL.out.trans (b.mono HBL.out.size)); have O2 := Lib.hid (own_below HO.out b)
      have hzz := b.size
      clear b
      go_wp2_with (at_builtin; refine Rw.push rfl _ _ 44 rfl w.heap.size 42 i0 (.slice none 0 0) 1 24 Try.underlying44 hi hz0 hz1 hz2 rfl (by decide) _ _ _ rfl O2.out [.slice q2 n2 c2] rfl rfl rfl (by omega) (by omega) (by omega) ?_)
      intro g4 cap4 w4 hown4 _ _ _ hgr
      have H3 := Lib.hid hown4
      have H4 := Lib.hid (B2.out.trans hgr)
      clear hown4 hgr
      go_wp2_with fail
      go_roundw
      case rel => exact ⟨k + 1, T ++ S2, K ++ [L], xs ++ [.slice q2 n2 c2], n3 + 1, by omega, by go_num, rfl, HT2.out, HN32.out, by omega, by omega, HALL2.out, H3.out, HFIT2.out, H4.out⟩
      case measure => simp [intOf]; omega
    · obtain rfl : k = m := by omega
      clear h3k hk hlt
      obtain ⟨A2, c2, rfl⟩ := own_slice HO.out
      by_cases h1 : wd < 1
      · have E1 : Hid (spE T.data.toList wd = 1) := Lib.hid (if_pos (.inl h1))
        go_wp2_with fail
        refine (split_at T wd _ (by omega) _ 1 rfl E1.out).mono ?_
        rintro e w1 ⟨A3, c3, rfl, _, b⟩
        have B2 := Lib.hid (HBL.out.trans (b.mono HBL.out.size)); clear b
        go_wp2_with fail
        go_ret
        exact ⟨rfl, B2.out⟩
      by_cases h8 : 8 < wd
      · have E1 : Hid (spE T.data.toList wd = 1) := Lib.hid (if_pos (.inr h8))
        have t1 : decide (wd < 1) = false := decide_eq_false h1
        clear h1
        go_wp2_with fail
        refine (split_at T wd _ (by omega) _ 1 rfl E1.out).mono ?_
        rintro e w1 ⟨A3, c3, rfl, _, b⟩
        have B2 := Lib.hid (HBL.out.trans (b.mono HBL.out.size)); clear b
        go_wp2_with fail
        go_ret
        exact ⟨rfl, B2.out⟩
      obtain ⟨n, rfl⟩ := Int.eq_ofNat_of_zero_le (show 0 ≤ wd by omega)
      have n1 : 1 ≤ n := by omega
      have n8 : n ≤ 8 := by omega
      have hK : ∀ L ∈ K, L.length = n ∧ ∀ j ∈ L, j < 1099511627776 := fun L hL => by
        have h := HALL.out L hL
        exact ⟨by have := h.1; omega, h.2.2.2⟩
      have hjl : (joinR K).length = 5 * n * K.length := joinR_length n K (fun L hL => (hK L hL).1)
      have hTd : T.data.toList = joinR K := by rw [HT.out, ofB_data]
      have E0 : spE T.data.toList n = 0 := by
        unfold spE
        rw [if_neg (by omega), Int.toNat_natCast, hTd, hjl, Nat.mul_mod_right]; rfl
      have F0 : Hid (spE T.data.toList n = 0 ∧ spM T.data.toList n = K) := Lib.hid ⟨E0, by
        unfold spM
        rw [if_pos E0, Int.toNat_natCast, hTd, hjl, Nat.mul_div_cancel_left _ (by omega), recsN_join n K hK]⟩
      have E5 : Hid (spE (T ++ (⟨#[120]⟩ : ByteArray)).data.toList n = 5) := Lib.hid (by
        have e : (T ++ (⟨#[120]⟩ : ByteArray)).data.toList = joinR K ++ [120] := by rw [HT.out]; simp [ofB]
        unfold spE
        rw [if_neg (by omega), Int.toNat_natCast, e, List.length_append, hjl, List.length_singleton, Nat.add_comm, Nat.add_mul_mod_self_left, Nat.mod_eq_of_lt (by omega)]; rfl)
      have HR := Lib.hid (recsAt_fit HBL.out HO.out HFIT.out (fun L hL => by have := (hK L hL).1; omega))
      have hx2 : (T ++ (⟨#[120]⟩ : ByteArray)).size ≤ 2000000 := by rw [ByteArray.size_append]; have : (⟨#[120]⟩ : ByteArray).size = 1 := rfl; omega
      have HX2 := Lib.hid hx2
      have hTT : Hid (T.size ≤ 2000000) := Lib.hid (by omega)
      have hn3b : n3 ≤ 9223372036854775807 := by omega
      have HSP : Hid (∀ w, Calls Try.prog 30 #[.string (T ++ (⟨#[120]⟩ : ByteArray)), .int .i64 (n : Int)] w (SplitPost w (spM (T ++ (⟨#[120]⟩ : ByteArray)).data.toList (n : Int)) 5)) := Lib.hid (fun w => split_at (T ++ (⟨#[120]⟩ : ByteArray)) (n : Int) w HX2.out (spM (T ++ (⟨#[120]⟩ : ByteArray)).data.toList (n : Int)) 5 rfl E5.out)
      obtain ⟨M5, hM5⟩ : ∃ M5, M5 = spM (T ++ (⟨#[120]⟩ : ByteArray)).data.toList (n : Int) := ⟨_, rfl⟩
      rw [← hM5] at HSP
      clear h1 h8 hK hjl hTd E0 hx2 hM5 E5 HX2
      go_wp2_with fail
      refine (split_at T n _ hTT.out K 0 F0.out.2 F0.out.1).mono ?_
      rintro e w1 ⟨A3, c3, rfl, hr, b⟩
      rw [← HN3.out]
      have RK := Lib.hid hr; have R2 := Lib.hid (HR.out.below b)
      have B2 := Lib.hid (HBL.out.trans (b.mono HBL.out.size)); clear b hr
      go_wp2_with fail
      refine (HSP.out _).mono ?_
      rintro e w2 ⟨A4, c4, rfl, _, b⟩
      have RK3 := Lib.hid (RK.out.below b); have R3 := Lib.hid (R2.out.below b)
      have B3 := Lib.hid (B2.out.trans (b.mono B2.out.size)); clear b
      go_wp2_with fail
      refine (same_at K K n3 n3 HN3.out HN3.out A3 A2 c3 c2 _ RK3.out R3.out hn3b hn3b).mono ?_
      rw [decide_eq_true (rfl : K = K)]
      rintro e w3 ⟨rfl, j, rfl⟩
      have B4 := Lib.hid (below_drewN B3.out j)
      go_wp2_with fail
      go_ret
      exact ⟨rfl, B4.out⟩
end Go.Proofs.Ytjbbkcnfilnmcaa.Nm
