/- The document's Decode. -/
import Derived.Test.YtbegngilbngnoaaDoorZerB
import Derived.Lib.BufferRead
namespace Go.Proofs.YtbegngilbngnoaaDoor.Ze
open Go.RowKit Go.Lib Rw Ls Od _root_.Go.Proofs.YtbegngilbngnoaaDoor.Nm

/-- what symbols tell, of so many bytes at most -/
def dcA (l : List Nat) : List Nat × Nat × Nat := dec 65536 l 0 [] []
def DeP (w : World) (o : List Nat × Nat × Nat) (e : Ending) (w' : World) : Prop := e = .returned (.tuple #[.string (ofN o.1), .int .i64 (o.2.1 : Nat), .int .i64 (o.2.2 : Nat)]) ∧ Below w.heap.size w w'
theorem dep_mk {w w' : World} {o : List Nat × Nat × Nat} {s : ByteArray} {t : List Nat} {n e : Nat} (h : o = (t, n, e)) (hs : s = ofN t) (hb : Below w.heap.size w w') : DeP w o (.returned (.tuple #[.string s, .int .i64 (n : Nat), .int .i64 (e : Nat)])) w' := by
  subst h hs; exact ⟨rfl, hb⟩
theorem zeros_u8 (m : Nat) : (Builtin.zeroCells (Value.int .u8 0).cells m).toList = u8s (List.replicate m 0) := by
  apply List.ext_getElem
  · simp [Builtin.zeroCells, u8s, Value.cells]
  · intro i h1 h2
    simp [Builtin.zeroCells, u8s, Value.cells]
    have : i % 1 = 0 := by omega
    simp [this]
theorem u8s_app (a b : List Nat) : u8s (a ++ b) = u8s a ++ u8s b := by simp [u8s]
/-- two rows that lie in no one block -/
def Aprt (a b : Value) : Prop := ∀ j, a.ownBlock = some j → b.ownBlock ≠ some j
theorem Aprt.symm {a b : Value} (h : Aprt a b) : Aprt b a := fun j h1 h2 => h j h2 h1
theorem Aprt.keep {a b : Value} (h : Aprt a b) : a.ownBlock = none ∨ a.ownBlock ≠ b.ownBlock := by
  cases e : a.ownBlock with
  | none => exact .inl rfl
  | some j => exact .inr fun e2 => h j e e2.symm
theorem Aprt.nilr (a : Value) : Aprt a (.slice none 0 0) := fun j _ h => by cases h
theorem Aprt.grow {a b a' : Value} {n : Nat} (h : Aprt a b) (ha : a'.ownBlock = a.ownBlock ∨ ∃ g, a'.ownBlock = some g ∧ n ≤ g) (hb : ∀ j, b.ownBlock = some j → j < n) : Aprt a' b := fun j h1 h2 => by
  rcases ha with ha | ⟨g, ha, hg⟩
  · exact h j (by rw [← ha]; exact h1) h2
  · rw [ha] at h1
    have e : g = j := by injection h1
    subst e
    have := hb g h2; omega
/-- a text of a row of bytes -/
theorem conv_own {w : World} {B n : Nat} {v : Value} {L : List Nat} (h : w.ownsRow B 5 1 v n (u8s L)) (hL : ∀ x ∈ L, x < 256) : (convert 43 9 v).run Tryd.prog w = .ok (.string (ofN L)) w := by
  have hlen := h.1
  rw [u8s_length, Nat.mul_one] at hlen
  rcases h.2 with ⟨rfl, hn⟩ | ⟨g, cap, cur, rfl, _⟩
  · have h0 : n = 0 := by first | exact hn | (rw [hn] at hlen; simpa using hlen)
    have : L = [] := List.eq_nil_of_length_eq_zero (by omega)
    subst this
    exact Lib.run_convert_nil_bytes (P := Tryd.prog) w 43 9 5 0 Tryd.underlying43 Tryd.underlying5 Tryd.underlying9
  · have hby := bytes_of h hL
    have hbk := Row.run_back hby cap
    rw [List.length_map, hlen] at hbk
    exact hbk
theorem nmC_lt {l : List Nat} {m : Nat} (h : m ≤ 65536) : (m < nmC l) = (m < nm l) := by
  unfold nmC
  split
  · apply propext; omega
  · rfl
/-- what is told so far -/
def DeR (l : List Nat) (n B : Nat) (w : World) (vo vr i : Value) (wr : World) : Prop := ∃ (k : Nat) (out run : List Nat), k ≤ n ∧ i = .int .i64 k ∧ Hid (dec 65536 (l.drop k) k out run = dcA l) ∧ out.length ≤ 65536 ∧ Hid (∀ x ∈ out, x < 256) ∧ Hid (∀ d ∈ run, d < 2) ∧ run.length ≤ k ∧ Hid (wr.ownsRow B 5 1 vo out.length (u8s out)) ∧ Hid (wr.ownsRow B 31 1 vr run.length (nums run)) ∧ Hid (Aprt vo vr) ∧ Hid (Below B w wr)
set_option maxHeartbeats 8000000 in
set_option maxRecDepth 100000 in
theorem rdecode_any (l : List Nat) (p : Option Addr) (c : Nat) (w : World) (hp : Rd w p (nums l)) (hl : l.length ≤ 17592186044416) :
    Calls Tryd.prog 11 #[.slice p l.length c] w (DeP w (dcA l)) := by
  obtain ⟨i0, hi0, hz0, hz1, hz2⟩ := info_parts info_u64
  obtain ⟨i1, hi1, hy0, hy1, hy2⟩ := info_parts info_u8
  obtain ⟨B, hB⟩ : ∃ B, B = w.heap.size := ⟨_, rfl⟩
  obtain ⟨n, hn⟩ : ∃ n, n = l.length := ⟨_, rfl⟩
  rw [← hn] at hl ⊢
  have HBW := Lib.hid hB; have HN := Lib.hid hn; have HP := Lib.hid hp
  have HNU := Lib.hid (fun (L : List Nat) (q : Option Addr) (d : Nat) (W : World) (h1 : Rd W q (nums L)) (h2 : L.length ≤ 17592186044416) (h3 : ∀ d ∈ L, d < 2) => rnumber_any L q d W h1 h2 h3)
  clear hB hn hp
  go_enter Tryd.func11, Tryd.ntmps11
  go_wp2_with fail
  go_loopw [5, 6, 12] (fun vo vr i wr => DeR l n B w vo vr i wr) (fun _ _ i _ => n - (intOf i).toNat)
  case atStart => exact ⟨0, [], [], Nat.zero_le _, rfl, Lib.hid rfl, Nat.zero_le _, Lib.hid (by simp), Lib.hid (by simp), Nat.zero_le _, Lib.hid (World.ownsRow_nil _ _ _ _), Lib.hid (World.ownsRow_nil _ _ _ _), Lib.hid (Aprt.nilr _), Lib.hid (Below.refl _ _)⟩
  case round =>
    obtain ⟨k, out, run, hk, rfl, HE, hol, HB8, HD2, hrl, HO, HR, HA, HB⟩ := hrel
    have HPW : Hid (Rd wr p (nums l)) := Lib.hid (HP.out.below (by rw [← HBW.out]; exact HB.out))
    have hwz : B ≤ wr.heap.size := by rw [HBW.out]; exact HB.out.size
    have HF : Hid (Below w.heap.size w wr) := Lib.hid (by rw [← HBW.out]; exact HB.out)
    obtain ⟨ol, hole⟩ : ∃ ol, ol = out.length := ⟨_, rfl⟩
    obtain ⟨rl, hrle⟩ : ∃ rl, rl = run.length := ⟨_, rfl⟩
    have HOL := Lib.hid hole; have HRL := Lib.hid hrle
    rw [← hole] at HO hol
    rw [← hrle] at HR hrl
    clear hole hrle
    by_cases hlt : k < n
    · obtain ⟨a, rfl, cy⟩ := rd_num HPW.out k (by rw [← HN.out]; exact hlt)
      obtain ⟨x, hx⟩ : ∃ x, x = l.getD k 0 := ⟨_, rfl⟩
      rw [← hx] at cy
      have HDR : Hid (l.drop k = x :: l.drop (k + 1)) := Lib.hid (by
        have h2 : k < l.length := by rw [← HN.out]; exact hlt
        rw [List.drop_eq_getElem_cons h2, hx, gd h2])
      have HE2 : Hid (dec 65536 (x :: l.drop (k + 1)) k out run = dcA l) := Lib.hid (by rw [← HDR.out]; exact HE.out)
      have k0 : (0 : Int) ≤ (k : Int) := by omega
      have k1 : (k : Int) < (n : Int) := by omega
      clear hx HE HDR
      by_cases h2 : x < 2
      · have b1 : decide ((x : Int) < 2) = true := decide_eq_true (by omega)
        have b2 : decide (x < 2) = true := decide_eq_true h2
        have HE3 : Hid (dec 65536 (l.drop (k + 1)) (k + 1) out (run ++ [x]) = dcA l) := Lib.hid (by have := HE2.out; rwa [dec, if_pos h2] at this)
        have HD3 : Hid (∀ d ∈ run ++ [x], d < 2) := Lib.hid (fun d hd => by
          rcases List.mem_append.1 hd with hd | hd
          · exact HD2.out d hd
          · rw [List.mem_singleton] at hd; omega)
        have HNL : Hid (nums (run ++ [x]) = nums run ++ [.int .u64 (x : Nat)] ∧ (run ++ [x]).length = rl + 1) := Lib.hid ⟨by simp [nums], by simp [HRL.out]⟩
        clear h2
        have hon : ∀ u ∈ [Value.int .u64 (x : Nat)], u.oneCell' = true := by intro u hu; rw [List.mem_singleton] at hu; rw [hu]; rfl
        have hmx : rl + 1 ≤ maxLen := by unfold maxLen; omega
        have HRA := Lib.hid (HR.out.alloc (.cells #[.int .u64 (x : Nat)] 31))
        go_wp2_with (at_builtin; refine wpList_app rfl _ _ 22 rfl B 31 i0 (.int .u64 0) 1 8 Tryd.underlying22 hi0 hz0 hz1 hz2 rfl (by decide) _ rl (nums run) rfl (some ⟨wr.heap.size, 0, none⟩) 1 1 [.int .u64 (x : Nat)] rfl rfl hon hmx (by omega) HRA.out (Rd.new _ _ _) (by simp; omega) ?_)
        intro v4 w4 hown4 hgr4 hb4 hat4
        have HR4 : Hid (w4.ownsRow B 31 1 v4 (run ++ [x]).length (nums (run ++ [x]))) := Lib.hid (by rw [HNL.out.1, HNL.out.2]; exact hown4)
        have HO4 : Hid (w4.ownsRow B 5 1 u5 out.length (u8s out)) := Lib.hid (by rw [← HOL.out]; exact (HO.out.alloc _).kept hgr4 HA.out.keep)
        have HA4 : Hid (Aprt u5 v4) := Lib.hid ((HA.out.symm.grow (n := wr.heap.size) (by
          rcases hat4 with h | h
          · exact .inl h
          · exact .inr ⟨_, h, by simp⟩) (fun j e => (HO.out.lt j e).2)).symm)
        replace hb4 := (Below.alloc (Below.refl B wr) hwz (.cells #[.int .u64 (x : Nat)] 31)).trans hb4
        have HB4 := Lib.hid (HB.out.trans hb4)
        have HOL2 : Hid (out.length ≤ 65536) := Lib.hid (by rw [← HOL.out]; exact hol)
        have HRL2 : Hid ((run ++ [x]).length ≤ k + 1) := Lib.hid (by rw [HNL.out.2]; omega)
        clear hown4 hgr4 hat4 hb4 HRA hon
        go_wp2_with fail
        go_roundw
        case rel => exact ⟨k + 1, out, run ++ [x], by omega, by go_num, HE3, HOL2.out, HB8, HD3, HRL2.out, HO4, HR4, HA4, HB4⟩
        case measure => simp [intOf]; omega
      · have b1 : decide ((x : Int) < 2) = false := decide_eq_false (by omega)
        have b2 : decide (x < 2) = false := decide_eq_false h2
        have HE3 := HE2.out
        rw [dec, if_neg h2] at HE3
        obtain ⟨q6, c6, rfl, hc6, hr6, _⟩ := own_rdN HR.out
        have HNU2 := HNU.out run q6 c6 wr hr6 (by rw [← HRL.out]; omega) HD2.out
        rw [← HRL.out] at HNU2
        have HNU3 := Lib.hid HNU2
        obtain ⟨q5, c5, rfl, hc5, _, _⟩ := own_rdN HO.out
        have HX2 : Hid (2 ≤ x) := Lib.hid (by omega)
        clear hr6 HNU2 h2 HE2
        obtain ⟨y, hy⟩ : ∃ y, y = nmC run := ⟨_, rfl⟩
        rw [← hy] at HNU3
        have hlm : (65536 - ol < y) = (65536 - ol < nm run) := by rw [hy]; exact nmC_lt (by omega)
        have s1 : (65536 : Int) - (ol : Int) = ((65536 - ol : Nat) : Int) := by omega
        obtain ⟨room, hroom⟩ : ∃ room, room = 65536 - ol := ⟨_, rfl⟩
        rw [← hroom] at s1 hlm
        have s2 : IntKind.u64.wrap ((room : Int)) = (room : Int) := IntWalk.u64_in _ (by omega)
        have HRM := Lib.hid hroom
        by_cases hbig : room < y
        · have d1 : decide ((room : Int) < (y : Int)) = true := decide_eq_true (by omega)
          have d2 : decide (room < y) = true := decide_eq_true hbig
          have HF8 : Hid (dcA l = ([], 0, 8)) := Lib.hid (by rw [← HE3, if_pos]; rw [← HOL.out, ← hroom, ← hlm]; exact hbig)
          clear hy HE3 hbig hroom hlm
          go_wp2_with fail
          refine HNU3.out.mono ?_
          rintro e w1 ⟨rfl, rfl⟩
          go_wp2_with fail
          refine bodyPost_ret (v := .tuple #[.string ⟨#[]⟩, .int .i64 0, .int .i64 8]) (by simp [results, Tryd.results11, go_sem]) rfl ?_
          exact dep_mk (t := []) (n := 0) (e := 8) HF8.out rfl HF.out
        · have d1 : decide ((room : Int) < (y : Int)) = false := decide_eq_false (by omega)
          have d2 : decide (room < y) = false := decide_eq_false hbig
          have hnr : ¬ 65536 - out.length < nm run := by rw [← HOL.out, ← hroom, ← hlm]; exact hbig
          have hyn : y = nm run := by rw [hy]; exact nmC_small (by omega)
          rw [if_neg hnr, ← hyn] at HE3
          have HE4 := Lib.hid HE3
          have hym : ol + y ≤ 65536 := by omega
          have HZ8 := Lib.hid (zeros_u8 y)
          have HZ1 : Hid (∀ u ∈ (Builtin.zeroCells (Value.int .u8 0).cells y).toList, u.oneCell' = true) := Lib.hid (by
            rw [zeros_u8]; intro u hu; simp only [u8s, List.mem_map] at hu; obtain ⟨_, _, rfl⟩ := hu; rfl)
          have hmx : ol + y ≤ maxLen := by unfold maxLen; omega
          clear hy HE3 hbig hroom hlm hnr hyn
          go_wp2_with fail
          refine HNU3.out.mono ?_
          rintro e w1 ⟨rfl, rfl⟩
          go_wp2_with (at_builtin; refine wpList_app_make rfl _ _ 43 31 rfl B 5 i1 (.int .u8 0) .u64 .u64 1 1 Tryd.underlying43 Tryd.underlying31 hi1 hy0 hy1 hy2 rfl (by decide) _ ol (u8s out) rfl y rfl HZ1.out hmx (by omega) HO.out hwz ?_)
          intro v2 w2 hown2 _ hb2 _
          obtain ⟨O2, hO2⟩ : ∃ O2, O2 = out ++ List.replicate y 0 := ⟨_, rfl⟩
          have HO2 : Hid (w2.ownsRow B 5 1 v2 (ol + y) (u8s O2)) := Lib.hid (by rw [hO2, u8s_app, ← HZ8.out]; exact hown2)
          have HB2 := Lib.hid (HB.out.trans hb2)
          have HL2 : Hid (∀ x ∈ O2, x < 256) := Lib.hid (by
            intro x hx
            rw [hO2] at hx
            rcases List.mem_append.1 hx with hx | hx
            · exact HB8.out x hx
            · rw [List.eq_of_mem_replicate hx]; omega)
          have HOL2 : Hid (O2.length = ol + y) := Lib.hid (by rw [hO2]; simp [HOL.out])
          have HF2 : Hid (Below w.heap.size w w2) := Lib.hid (by rw [← HBW.out]; exact HB2.out)
          have hwz2 : B ≤ w2.heap.size := by rw [HBW.out]; exact HB2.out.size
          have HE5 : Hid ((if 258 ≤ x then ([], 0, 7) else if x = 257 then (O2, k + 1, 0) else if out.length + y = 65536 then ([], 0, 8) else dec 65536 (l.drop (k + 1)) (k + 1) (O2 ++ [x - 1]) []) = dcA l) := Lib.hid (by rw [hO2]; exact HE4.out)
          clear hown2 hb2 hO2 HE4
          by_cases h258 : 258 ≤ x
          · have e1 : decide ((258 : Int) ≤ (x : Int)) = true := decide_eq_true (by omega)
            have e2 : decide (258 ≤ x) = true := decide_eq_true h258
            have HF7 : Hid (dcA l = ([], 0, 7)) := Lib.hid (by rw [← HE5.out, if_pos h258])
            clear h258
            go_wp2_with fail
            refine bodyPost_ret (v := .tuple #[.string ⟨#[]⟩, .int .i64 0, .int .i64 7]) (by simp [results, Tryd.results11, go_sem]) rfl ?_
            exact dep_mk (t := []) (n := 0) (e := 7) HF7.out rfl HF2.out
          · have e1 : decide ((258 : Int) ≤ (x : Int)) = false := decide_eq_false (by omega)
            have e2 : decide (258 ≤ x) = false := decide_eq_false h258
            have HE6 := HE5.out
            rw [if_neg h258] at HE6
            by_cases h257 : x = 257
            · have e3 : ((x : Int) == 257) = true := by rw [beq_iff_eq]; omega
              have e4 : (x == 257) = true := by rw [beq_iff_eq]; exact h257
              have HFK : Hid (dcA l = (O2, k + 1, 0)) := Lib.hid (by rw [← HE6, if_pos h257])
              have hcv := conv_own HO2.out HL2.out
              obtain ⟨S, hS⟩ : ∃ S, S = ofN O2 := ⟨_, rfl⟩
              rw [← hS] at hcv
              have HS := Lib.hid hS
              obtain ⟨k1', hk1⟩ : ∃ k1', k1' = k + 1 := ⟨_, rfl⟩
              have u1 : (k : Int) + 1 = (k1' : Int) := by omega
              have u2 : IntKind.i64.wrap ((k1' : Int)) = (k1' : Int) := IntWalk.i64_in _ (by omega)
              rw [← hk1] at HFK
              clear hS HE6 h257 h258 hk1
              go_wp2_with fail
              refine bodyPost_ret (v := .tuple #[.string S, .int .i64 (k1' : Nat), .int .i64 0]) (by simp [results, Tryd.results11, go_sem]) rfl ?_
              exact dep_mk (t := O2) (n := k1') (e := 0) HFK.out HS.out HF2.out
            · have e3 : ((x : Int) == 257) = false := by rw [beq_eq_false_iff_ne]; omega
              have e4 : (x == 257) = false := by rw [beq_eq_false_iff_ne]; exact h257
              rw [if_neg h257] at HE6
              obtain ⟨q7, c7, rfl, hc7, _, _⟩ := own_rdN HO2.out
              by_cases hfull : ol + y = 65536
              · have e5 : (((ol + y : Nat) : Int) == 65536) = true := by rw [beq_iff_eq]; omega
                have e6 : (ol + y == 65536) = true := by rw [beq_iff_eq]; exact hfull
                have e7 : ((ol : Int) + (y : Int) == 65536) = true := by rw [beq_iff_eq]; omega
                have HF8 : Hid (dcA l = ([], 0, 8)) := Lib.hid (by rw [← HE6, if_pos (by rw [← HOL.out]; exact hfull)])
                clear HE6 h257 h258 hfull
                go_wp2_with fail
                refine bodyPost_ret (v := .tuple #[.string ⟨#[]⟩, .int .i64 0, .int .i64 8]) (by simp [results, Tryd.results11, go_sem]) rfl ?_
                exact dep_mk (t := []) (n := 0) (e := 8) HF8.out rfl HF2.out
              · have e5 : (((ol + y : Nat) : Int) == 65536) = false := by rw [beq_eq_false_iff_ne]; omega
                have e6 : (ol + y == 65536) = false := by rw [beq_eq_false_iff_ne]; exact hfull
                have e7 : ((ol : Int) + (y : Int) == 65536) = false := by rw [beq_eq_false_iff_ne]; omega
                rw [if_neg (by rw [← HOL.out]; exact hfull)] at HE6
                have HE7 := Lib.hid HE6
                obtain ⟨x1, hx1⟩ : ∃ x1, x1 = x - 1 := ⟨_, rfl⟩
                have u1 : (x : Int) - 1 = (x1 : Int) := by have := HX2.out; omega
                have u2 : IntKind.u64.wrap ((x1 : Int)) = (x1 : Int) := IntWalk.u64_in _ (by omega)
                have u3 : IntKind.u8.wrap ((x1 : Int)) = (x1 : Int) := by simp [IntKind.wrap, IntKind.bits, IntKind.signed]; omega
                have hx256 : x1 < 256 := by omega
                rw [← hx1] at HE7
                have HNL : Hid (u8s (O2 ++ [x1]) = u8s O2 ++ [.int .u8 (x1 : Nat)] ∧ (O2 ++ [x1]).length = ol + y + 1) := Lib.hid ⟨u8s_snoc _ _, by simp [HOL2.out]⟩
                have HL3 : Hid (∀ z ∈ O2 ++ [x1], z < 256) := Lib.hid (fun z hz => by
                  rcases List.mem_append.1 hz with hz | hz
                  · exact HL2.out z hz
                  · rw [List.mem_singleton] at hz; omega)
                have HFU : Hid (ol + y < 65536) := Lib.hid (by omega)
                clear HE6 h257 h258 hfull hx1
                go_wp2_with (at_builtin; refine Rw.push rfl _ _ 43 rfl B 5 i1 (.int .u8 0) 1 1 Tryd.underlying43 hi1 hy0 hy1 hy2 rfl (by decide) _ _ _ rfl HO2.out [.int .u8 (x1 : Nat)] rfl rfl rfl (by omega) (by omega) hwz2 ?_)
                intro g4 cap4 w4 hown4 _ _ _ hb4
                have HO4 : Hid (w4.ownsRow B 5 1 (.slice (some ⟨g4, 0, none⟩) (ol + y + 1) cap4) (O2 ++ [x1]).length (u8s (O2 ++ [x1]))) := Lib.hid (by rw [HNL.out.1, HNL.out.2]; exact hown4)
                have HB4 := Lib.hid (HB2.out.trans hb4)
                have HOL3 : Hid ((O2 ++ [x1]).length ≤ 65536) := Lib.hid (by rw [HNL.out.2]; have := HFU.out; omega)
                clear hown4 hb4
                go_wp2_with fail
                go_roundw
                case rel => exact ⟨k + 1, O2 ++ [x1], [], by omega, by go_num, HE7, HOL3.out, HL3, Lib.hid (by simp), by simp, HO4, Lib.hid (World.ownsRow_nil _ _ _ _), Lib.hid (Aprt.nilr _), HB4⟩
                case measure => simp [intOf]; omega
    · obtain rfl : k = n := by omega
      have k1 : ¬ (k : Int) < (k : Int) := by omega
      have HE3 := HE.out
      rw [show l.drop k = [] from List.drop_eq_nil_of_le (by rw [← HN.out]; exact Nat.le_refl _), dec] at HE3
      obtain ⟨q6, c6, rfl, hc6, hr6, _⟩ := own_rdN HR.out
      have HNU2 := HNU.out run q6 c6 wr hr6 (by rw [← HRL.out]; omega) HD2.out
      rw [← HRL.out] at HNU2
      have HNU3 := Lib.hid HNU2
      obtain ⟨q5, c5, rfl, hc5, _, _⟩ := own_rdN HO.out
      obtain ⟨y, hy⟩ : ∃ y, y = nmC run := ⟨_, rfl⟩
      rw [← hy] at HNU3
      have hlm : (65536 - ol < y) = (65536 - ol < nm run) := by rw [hy]; exact nmC_lt (by omega)
      have s1 : (65536 : Int) - (ol : Int) = ((65536 - ol : Nat) : Int) := by omega
      obtain ⟨room, hroom⟩ : ∃ room, room = 65536 - ol := ⟨_, rfl⟩
      rw [← hroom] at s1 hlm
      have s2 : IntKind.u64.wrap ((room : Int)) = (room : Int) := IntWalk.u64_in _ (by omega)
      by_cases hbig : room < y
      · have d1 : decide ((room : Int) < (y : Int)) = true := decide_eq_true (by omega)
        have d2 : decide (room < y) = true := decide_eq_true hbig
        have HF8 : Hid (dcA l = ([], 0, 8)) := Lib.hid (by rw [← HE3, if_pos]; rw [← HOL.out, ← hroom, ← hlm]; exact hbig)
        clear hy HE3 hbig hroom hlm hr6 HNU2
        go_wp2_with fail
        refine HNU3.out.mono ?_
        rintro e w1 ⟨rfl, rfl⟩
        go_wp2_with fail
        refine bodyPost_ret (v := .tuple #[.string ⟨#[]⟩, .int .i64 0, .int .i64 8]) (by simp [results, Tryd.results11, go_sem]) rfl ?_
        exact dep_mk (t := []) (n := 0) (e := 8) HF8.out rfl HF.out
      · have d1 : decide ((room : Int) < (y : Int)) = false := decide_eq_false (by omega)
        have d2 : decide (room < y) = false := decide_eq_false hbig
        have HF5 : Hid (dcA l = ([], 0, 5)) := Lib.hid (by rw [← HE3, if_neg]; rw [← HOL.out, ← hroom, ← hlm]; exact hbig)
        clear hy HE3 hbig hroom hlm hr6 HNU2
        go_wp2_with fail
        refine HNU3.out.mono ?_
        rintro e w1 ⟨rfl, rfl⟩
        go_wp2_with fail
        refine bodyPost_ret (v := .tuple #[.string ⟨#[]⟩, .int .i64 0, .int .i64 5]) (by simp [results, Tryd.results11, go_sem]) rfl ?_
        exact dep_mk (t := []) (n := 0) (e := 5) HF5.out rfl HF.out
end Go.Proofs.YtbegngilbngnoaaDoor.Ze
