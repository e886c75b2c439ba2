/- The document's Front, Move, Back. -/
import Derived.Test.YtbcdnnppbggifaaMtfA
import Derived.Lib.BufferRead
namespace Go.Proofs.Ytbcdnnppbggifaa.Mt
open Go.RowKit Go.Lib Rw Nm Ls Od

/-- what Move and Back answer -/
def out2 (f : List Nat → List Nat → List Nat × List Nat) (r s : List Nat) : ByteArray × ByteArray × Int :=
  if Row 256 r then (if s.length ≤ 65536 then (ofN (f r s).1, ofN (f r s).2, 0) else (⟨#[]⟩, ⟨#[]⟩, 1)) else (⟨#[]⟩, ⟨#[]⟩, 2)
def MvP (w : World) (o : ByteArray × ByteArray × Int) (e : Ending) (w' : World) : Prop := e = .returned (.tuple #[.string o.1, .string o.2.1, .int .i64 o.2.2]) ∧ Below w.heap.size w w'
theorem mvp_mk {w w' : World} {o : ByteArray × ByteArray × Int} {a b : ByteArray} {c : Int} (h : o = (a, b, c)) (hb : Below w.heap.size w w') : MvP w o (.returned (.tuple #[.string a, .string b, .int .i64 c])) w' := by
  subst h; exact ⟨rfl, hb⟩
theorem own_keep {w w' : World} {B : Nat} {e : TypeId} {s : Nat} {v : Value} {n : Nat} {xs : List Value} (h : w.ownsRow B e s v n xs) (hb : Below w.heap.size w w') : w'.ownsRow B e s v n xs := own_below h hb
def frS (L : List Nat) (c : Nat) : ByteArray := if Row 256 L then ofN (front L (L.idxOf c)) else ⟨#[]⟩
def frI (L : List Nat) (c : Nat) : Nat := if Row 256 L then L.idxOf c else 0
theorem rfrontf_any (s : ByteArray) (c : Nat) (w : World) (hc : c < 256) :
    Calls Try.prog 12 #[.string s, .int .u8 (c : Int)] w fun e w' => e = .returned (.tuple #[.string (frS (bsN s) c), .int .i64 (frI (bsN s) c : Nat), .int .i64 (rowE (bsN s))]) ∧ ∃ n, w' = w.drewN n := by
  have CC := Lib.hid (fun W => rcheckr_any s W)
  by_cases hr : Row 256 (bsN s)
  · obtain ⟨q, hq⟩ : ∃ q, q = (bsN s).idxOf c := ⟨_, rfl⟩
    have hqb : q < 256 := by rw [hq]; exact idx_lt hr hc
    have hss : s.size = 256 := by rw [← bsN_length]; exact hr.1
    have FX : Hid (fnd (bsN s) c = (q : Int)) := Lib.hid (by unfold fnd; rw [if_pos (hr.2 c hc), hq])
    have F : Hid (rowE (bsN s) = 0 ∧ frS (bsN s) c = ofN (front (bsN s) q) ∧ frI (bsN s) c = q) := Lib.hid ⟨rowE_yes hr, by unfold frS; rw [if_pos hr, hq], by unfold frI; rw [if_pos hr, hq]⟩
    have HFR := Lib.hid (fun W => rfrontr_any s q W (by omega) (by omega))
    have CF := Lib.hid (fun W => rfind_any s c W (by omega))
    rw [F.out.2.1, F.out.2.2, F.out.1]
    have CC2 : Hid (∀ W, Calls Try.prog 15 #[.string s] W fun e w' => e = .returned (.int .i64 0) ∧ w' = W) := Lib.hid (fun W => by have := CC.out W; rw [F.out.1] at this; exact this)
    clear hq hr
    go_enter Try.func12, Try.ntmps12
    go_wp2_with fail
    refine (CC2.out _).mono ?_
    rintro e w1 ⟨rfl, hw1⟩
    subst hw1
    go_wp2_with fail
    refine (CF.out _).mono ?_
    rintro e w2 ⟨rfl, hw2⟩
    subst hw2
    rw [FX.out]
    go_wp2_with fail
    refine (HFR.out _).mono ?_
    rintro e w3 ⟨rfl, n3, hw3⟩
    have H3 := Lib.hid hw3
    clear hw3
    go_wp2_with fail
    refine bodyPost_ret (v := .tuple #[.string (ofN (front (bsN s) q)), .int .i64 q, .int .i64 0]) (by simp [results, Try.results12, go_sem]) rfl ?_
    exact ⟨rfl, n3, H3.out⟩
  · have F : Hid (rowE (bsN s) = 2 ∧ frS (bsN s) c = ⟨#[]⟩ ∧ frI (bsN s) c = 0) := Lib.hid ⟨rowE_no hr, by unfold frS; rw [if_neg hr], by unfold frI; rw [if_neg hr]⟩
    rw [F.out.2.1, F.out.2.2, F.out.1]
    have CC2 : Hid (∀ W, Calls Try.prog 15 #[.string s] W fun e w' => e = .returned (.int .i64 2) ∧ w' = W) := Lib.hid (fun W => by have := CC.out W; rw [F.out.1] at this; exact this)
    clear hr
    go_enter Try.func12, Try.ntmps12
    go_wp2_with fail
    refine (CC2.out _).mono ?_
    rintro e w1 ⟨rfl, hw1⟩
    subst hw1
    go_wp2_with fail
    refine bodyPost_ret (v := .tuple #[.string ⟨#[]⟩, .int .i64 0, .int .i64 2]) (by simp [results, Try.results12, go_sem]) rfl ?_
    exact ⟨rfl, 0, rfl⟩
set_option maxHeartbeats 4000000 in
set_option maxRecDepth 100000 in
theorem rmv_any (r s : ByteArray) (w : World) :
    Calls Try.prog 8 #[.string r, .string s] w (MvP w (out2 mv (bsN r) (bsN s))) := by
  obtain ⟨i0, hi0, hz0, hz1, hz2⟩ := info_parts info_u8
  have CC := Lib.hid (fun W => rcheckr_any r W)
  by_cases hr : Row 256 (bsN r)
  case neg =>
    have F : Hid (rowE (bsN r) = 2 ∧ out2 mv (bsN r) (bsN s) = (⟨#[]⟩, ⟨#[]⟩, 2)) := Lib.hid ⟨rowE_no hr, by unfold out2; rw [if_neg hr]⟩
    clear hr
    go_enter Try.func8, Try.ntmps8
    go_wp2_with fail
    refine (CC.out _).mono ?_
    rintro e w1 ⟨rfl, rfl⟩
    rw [F.out.1]
    go_wp2_with fail
    refine bodyPost_ret (v := .tuple #[.string ⟨#[]⟩, .string ⟨#[]⟩, .int .i64 2]) (by simp [results, Try.results8, go_sem]) rfl ?_
    exact mvp_mk F.out.2 (Below.refl _ _)
  have HE : Hid (rowE (bsN r) = 0) := Lib.hid (rowE_yes hr)
  by_cases hs : 65536 < s.size
  case pos =>
    have F : Hid (out2 mv (bsN r) (bsN s) = (⟨#[]⟩, ⟨#[]⟩, 1)) := Lib.hid (by unfold out2; rw [if_pos hr, if_neg (by rw [bsN_length]; omega)])
    have t1 : decide ((65536 : Int) < (s.size : Int)) = true := decide_eq_true (by omega)
    have t2 : decide (65536 < s.size) = true := decide_eq_true hs
    clear hr hs
    go_enter Try.func8, Try.ntmps8
    go_wp2_with fail
    refine (CC.out _).mono ?_
    rintro e w1 ⟨rfl, rfl⟩
    rw [HE.out]
    go_wp2_with fail
    refine bodyPost_ret (v := .tuple #[.string ⟨#[]⟩, .string ⟨#[]⟩, .int .i64 1]) (by simp [results, Try.results8, go_sem]) rfl ?_
    exact mvp_mk F.out (Below.refl _ _)
  case neg =>
    have F : Hid (out2 mv (bsN r) (bsN s) = (ofN (mv (bsN r) (bsN s)).1, ofN (mv (bsN r) (bsN s)).2, 0)) := Lib.hid (by unfold out2; rw [if_pos hr, if_pos (by rw [bsN_length]; omega)])
    have t1 : decide ((65536 : Int) < (s.size : Int)) = false := decide_eq_false (by omega)
    have t2 : decide (65536 < s.size) = false := decide_eq_false hs
    have hs2 : s.size ≤ 65536 := by omega
    have HR := Lib.hid hr
    have HSL := Lib.hid (bsN_length s)
    have HSB := Lib.hid (bsN_lt s)
    have hown0 := World.ownsRow_nil w w.heap.size 5 1
    have HO0 := Lib.hid hown0
    clear hown0 hr hs
    go_enter Try.func8, Try.ntmps8
    go_wp2_with fail
    refine (CC.out _).mono ?_
    rintro e w1 ⟨rfl, rfl⟩
    rw [HE.out]
    go_wp2_with fail
    obtain ⟨hB, hhB⟩ : ∃ hB, hB = w1.heap.size := ⟨_, rfl⟩
    rw [← hhB] at HO0
    have HBH := Lib.hid hhB
    clear hhB
    go_loopw [0, 7, 8] (fun row v i wr => ∃ (k : Nat) (R : ByteArray), k ≤ s.size ∧ i = .int .i64 k ∧ row = .string R ∧ bsN R = (mv (bsN r) ((bsN s).take k)).2 ∧ wr.ownsRow hB 5 1 v k (u8s (mv (bsN r) ((bsN s).take k)).1) ∧ Below hB w1 wr) (fun _ _ i _ => s.size - (intOf i).toNat)
    case atStart => exact ⟨0, r, by omega, rfl, rfl, rfl, HO0.out, by rw [HBH.out]; exact Below.refl _ _⟩
    case round =>
      obtain ⟨k, R, hk, rfl, rfl, hR, ho, hb⟩ := hrel
      have HO := Lib.hid ho; have HB := Lib.hid hb; have HRR := Lib.hid hR
      have hsz2 : hB ≤ wr.heap.size := by rw [HBH.out]; exact hb.size
      have hrow : Row 256 (bsN R) := by rw [hR]; exact mv_row _ _ HR.out fun c hc => HSB.out c (List.mem_of_mem_take hc)
      have hRs : R.size = 256 := by rw [← bsN_length]; exact hrow.1
      clear ho hb hR
      by_cases hlt : k < s.size
      · obtain ⟨x, hx⟩ : ∃ x, x = (s[k]'hlt).toNat := ⟨_, rfl⟩
        have ex : ((s[k]'hlt).toNat : Int) = (x : Int) := by rw [hx]
        have hxs : (bsN s).getD k 0 = x := by rw [bsN_getD s k hlt, hx]
        have hxb : x < 256 := by rw [hx]; exact (s[k]'hlt).toNat_lt
        have hts := take_snoc (s := bsN s) (k := k) (by rw [HSL.out]; exact hlt)
        have hsn := mv_snoc (bsN r) ((bsN s).take k) x
        rw [hxs] at hts
        rw [← hts, ← HRR.out] at hsn
        clear hx hts hxs
        obtain ⟨q, hq⟩ : ∃ q, q = (bsN R).idxOf x := ⟨_, rfl⟩
        have hqb : q < 256 := by rw [hq]; exact idx_lt hrow hxb
        have FX : Hid (fnd (bsN R) x = (q : Int)) := Lib.hid (by unfold fnd; rw [if_pos (hrow.2 x hxb), hq])
        rw [← hq] at hsn
        have HFR := Lib.hid (fun W => rfrontr_any R q W (by omega) (by omega))
        have CF := Lib.hid (fun W => rfind_any R x W (by omega))
        have ew : IntKind.u8.wrap (q : Int) = (q : Int) := IntWalk.u8_in _ (by omega)
        clear hq
        go_wp2_with fail
        refine (CF.out _).mono ?_
        rintro e w2 ⟨rfl, hw2⟩
        subst hw2
        rw [FX.out]
        go_wp2_with (at_builtin; refine Rw.push rfl _ _ 37 rfl hB 5 i0 (.int .u8 0) 1 1 Try.underlying37 hi0 hz0 hz1 hz2 rfl (by decide) _ _ _ rfl HO.out [.int .u8 (q : Int)] rfl rfl rfl (by omega) (by omega) hsz2 ?_)
        intro g4 cap4 w4 hown4 _ _ _ hgr
        have H3 : Hid (w4.ownsRow hB 5 1 (.slice (some ⟨g4, 0, none⟩) (k + 1) cap4) (k + 1) (u8s (mv (bsN r) ((bsN s).take (k + 1))).1)) := Lib.hid (by
          rw [hsn, u8s_snoc]; exact hown4)
        have H4 := Lib.hid (HB.out.trans hgr)
        clear hown4 hgr
        go_wp2_with fail
        refine (HFR.out _).mono ?_
        rintro e w5 ⟨rfl, n5, hw5⟩
        have H5 : Hid (w5.ownsRow hB 5 1 (.slice (some ⟨g4, 0, none⟩) (k + 1) cap4) (k + 1) (u8s (mv (bsN r) ((bsN s).take (k + 1))).1)) := Lib.hid (own_below H3.out (by rw [hw5]; exact below_drewN (Below.refl _ _) n5))
        have H6 : Hid (Below hB w1 w5) := Lib.hid (by rw [hw5]; exact below_drewN H4.out n5)
        have H7 : Hid (bsN (ofN (front (bsN R) q)) = (mv (bsN r) ((bsN s).take (k + 1))).2) := Lib.hid (by
          rw [hsn, bsN_ofN]
          exact fun y hy => row_lt (front_row hrow hqb) hy)
        clear hw5
        go_wp2_with fail
        go_roundw
        case rel => exact ⟨k + 1, _, by omega, by go_num, rfl, H7.out, H5.out, H6.out⟩
        case measure => simp [intOf]; omega
      · obtain rfl : k = s.size := by omega
        have HF : Hid ((bsN s).take s.size = bsN s) := Lib.hid (List.take_of_length_le (by rw [HSL.out]; exact Nat.le_refl _))
        have HRF : Hid (R = ofN (mv (bsN r) (bsN s)).2) := Lib.hid (by rw [← HF.out, ← HRR.out, ofN_bsN])
        have ho2 := HO.out
        rw [HF.out] at ho2
        have hln : (mv (bsN r) (bsN s)).1.length = s.size := by rw [mv_length, HSL.out]
        have hlt1 := mv_lt (bsN s) _ HR.out HSB.out
        have B3 : Hid (Below w1.heap.size w1 wr) := Lib.hid (by rw [← HBH.out]; exact HB.out)
        rcases ho2.2 with ⟨rfl, hn⟩ | ⟨g, cap, cur, hv, _⟩
        · have hnil : (mv (bsN r) (bsN s)).1 = [] := List.length_eq_zero_iff.1 (by rw [hln]; exact hn)
          have HS : Hid ((⟨#[]⟩ : ByteArray) = ofN (mv (bsN r) (bsN s)).1) := Lib.hid (by rw [hnil]; rfl)
          have hbk0 := Lib.run_convert_nil_bytes (P := Try.prog) wr 37 9 5 0 Try.underlying37 Try.underlying5 Try.underlying9
          clear ho2 hln hlt1 hnil hn
          go_wp2_with fail
          refine bodyPost_ret (v := .tuple #[.string ⟨#[]⟩, .string R, .int .i64 0]) (by simp [results, Try.results8, go_sem]) rfl ?_
          exact mvp_mk (by rw [F.out, ← HS.out, ← HRF.out]) B3.out
        · subst hv
          have hby := bytes_of ho2 hlt1
          have hbk := Row.run_back hby cap
          rw [List.length_map, hln] at hbk
          obtain ⟨S, hS⟩ : ∃ S : ByteArray, S = ⟨((mv (bsN r) (bsN s)).1.map UInt8.ofNat).toArray⟩ := ⟨_, rfl⟩
          rw [← hS] at hbk
          have HS : Hid (S = ofN (mv (bsN r) (bsN s)).1) := Lib.hid hS
          clear hS hby ho2 hln hlt1
          go_wp2_with fail
          refine bodyPost_ret (v := .tuple #[.string S, .string R, .int .i64 0]) (by simp [results, Try.results8, go_sem]) rfl ?_
          exact mvp_mk (by rw [F.out, ← HS.out, ← HRF.out]) B3.out
set_option maxHeartbeats 4000000 in
set_option maxRecDepth 100000 in
theorem rbk_any (r s : ByteArray) (w : World) :
    Calls Try.prog 10 #[.string r, .string s] w (MvP w (out2 bk (bsN r) (bsN s))) := by
  obtain ⟨i0, hi0, hz0, hz1, hz2⟩ := info_parts info_u8
  have CC := Lib.hid (fun W => rcheckr_any r W)
  by_cases hr : Row 256 (bsN r)
  case neg =>
    have F : Hid (rowE (bsN r) = 2 ∧ out2 bk (bsN r) (bsN s) = (⟨#[]⟩, ⟨#[]⟩, 2)) := Lib.hid ⟨rowE_no hr, by unfold out2; rw [if_neg hr]⟩
    clear hr
    go_enter Try.func10, Try.ntmps10
    go_wp2_with fail
    refine (CC.out _).mono ?_
    rintro e w1 ⟨rfl, rfl⟩
    rw [F.out.1]
    go_wp2_with fail
    refine bodyPost_ret (v := .tuple #[.string ⟨#[]⟩, .string ⟨#[]⟩, .int .i64 2]) (by simp [results, Try.results10, go_sem]) rfl ?_
    exact mvp_mk F.out.2 (Below.refl _ _)
  have HE : Hid (rowE (bsN r) = 0) := Lib.hid (rowE_yes hr)
  by_cases hs : 65536 < s.size
  case pos =>
    have F : Hid (out2 bk (bsN r) (bsN s) = (⟨#[]⟩, ⟨#[]⟩, 1)) := Lib.hid (by unfold out2; rw [if_pos hr, if_neg (by rw [bsN_length]; omega)])
    have t1 : decide ((65536 : Int) < (s.size : Int)) = true := decide_eq_true (by omega)
    have t2 : decide (65536 < s.size) = true := decide_eq_true hs
    clear hr hs
    go_enter Try.func10, Try.ntmps10
    go_wp2_with fail
    refine (CC.out _).mono ?_
    rintro e w1 ⟨rfl, rfl⟩
    rw [HE.out]
    go_wp2_with fail
    refine bodyPost_ret (v := .tuple #[.string ⟨#[]⟩, .string ⟨#[]⟩, .int .i64 1]) (by simp [results, Try.results10, go_sem]) rfl ?_
    exact mvp_mk F.out (Below.refl _ _)
  case neg =>
    have F : Hid (out2 bk (bsN r) (bsN s) = (ofN (bk (bsN r) (bsN s)).1, ofN (bk (bsN r) (bsN s)).2, 0)) := Lib.hid (by unfold out2; rw [if_pos hr, if_pos (by rw [bsN_length]; omega)])
    have t1 : decide ((65536 : Int) < (s.size : Int)) = false := decide_eq_false (by omega)
    have t2 : decide (65536 < s.size) = false := decide_eq_false hs
    have hs2 : s.size ≤ 65536 := by omega
    have HR := Lib.hid hr
    have HSL := Lib.hid (bsN_length s)
    have HSB := Lib.hid (bsN_lt s)
    have hown0 := World.ownsRow_nil w w.heap.size 5 1
    have HO0 := Lib.hid hown0
    clear hown0 hr hs
    go_enter Try.func10, Try.ntmps10
    go_wp2_with fail
    refine (CC.out _).mono ?_
    rintro e w1 ⟨rfl, rfl⟩
    rw [HE.out]
    go_wp2_with fail
    obtain ⟨hB, hhB⟩ : ∃ hB, hB = w1.heap.size := ⟨_, rfl⟩
    rw [← hhB] at HO0
    have HBH := Lib.hid hhB
    clear hhB
    go_loopw [0, 7, 8] (fun row v i wr => ∃ (k : Nat) (R : ByteArray), k ≤ s.size ∧ i = .int .i64 k ∧ row = .string R ∧ bsN R = (bk (bsN r) ((bsN s).take k)).2 ∧ wr.ownsRow hB 5 1 v k (u8s (bk (bsN r) ((bsN s).take k)).1) ∧ Below hB w1 wr) (fun _ _ i _ => s.size - (intOf i).toNat)
    case atStart => exact ⟨0, r, by omega, rfl, rfl, rfl, HO0.out, by rw [HBH.out]; exact Below.refl _ _⟩
    case round =>
      obtain ⟨k, R, hk, rfl, rfl, hR, ho, hb⟩ := hrel
      have HO := Lib.hid ho; have HB := Lib.hid hb; have HRR := Lib.hid hR
      have hsz2 : hB ≤ wr.heap.size := by rw [HBH.out]; exact hb.size
      have hrow : Row 256 (bsN R) := by rw [hR]; exact bk_row _ _ HR.out fun c hc => HSB.out c (List.mem_of_mem_take hc)
      have hRs : R.size = 256 := by rw [← bsN_length]; exact hrow.1
      clear ho hb hR
      by_cases hlt : k < s.size
      · obtain ⟨x, hx⟩ : ∃ x, x = (s[k]'hlt).toNat := ⟨_, rfl⟩
        have ex : ((s[k]'hlt).toNat : Int) = (x : Int) := by rw [hx]
        have hxs : (bsN s).getD k 0 = x := by rw [bsN_getD s k hlt, hx]
        have hxb : x < 256 := by rw [hx]; exact (s[k]'hlt).toNat_lt
        have hts := take_snoc (s := bsN s) (k := k) (by rw [HSL.out]; exact hlt)
        have hsn := bk_snoc (bsN r) ((bsN s).take k) x
        rw [hxs] at hts
        rw [← hts, ← HRR.out] at hsn
        clear hx hts hxs
        have hxR : x < R.size := by omega
        obtain ⟨q, hq⟩ : ∃ q, q = (R[x]'hxR).toNat := ⟨_, rfl⟩
        have eq2 : ((R[x]'hxR).toNat : Int) = (q : Int) := by rw [hq]
        have hqq : (bsN R).getD x 0 = q := by rw [bsN_getD R x hxR, hq]
        rw [hqq] at hsn
        have HFR := Lib.hid (fun W => rfrontr_any R x W hxR (by omega))
        have ew : IntKind.i64.wrap (x : Int) = (x : Int) := IntWalk.i64_in _ (by omega)
        have x0 : (0 : Int) ≤ (x : Int) := by omega
        have x1 : (x : Int) < (R.size : Int) := by omega
        clear hq hqq
        go_wp2_with (at_builtin; refine Rw.push rfl _ _ 37 rfl hB 5 i0 (.int .u8 0) 1 1 Try.underlying37 hi0 hz0 hz1 hz2 rfl (by decide) _ _ _ rfl HO.out [.int .u8 (q : Int)] rfl rfl rfl (by omega) (by omega) hsz2 ?_)
        intro g4 cap4 w4 hown4 _ _ _ hgr
        have H3 : Hid (w4.ownsRow hB 5 1 (.slice (some ⟨g4, 0, none⟩) (k + 1) cap4) (k + 1) (u8s (bk (bsN r) ((bsN s).take (k + 1))).1)) := Lib.hid (by
          rw [hsn, u8s_snoc]; exact hown4)
        have H4 := Lib.hid (HB.out.trans hgr)
        clear hown4 hgr
        go_wp2_with fail
        refine (HFR.out _).mono ?_
        rintro e w5 ⟨rfl, n5, hw5⟩
        have H5 : Hid (w5.ownsRow hB 5 1 (.slice (some ⟨g4, 0, none⟩) (k + 1) cap4) (k + 1) (u8s (bk (bsN r) ((bsN s).take (k + 1))).1)) := Lib.hid (own_below H3.out (by rw [hw5]; exact below_drewN (Below.refl _ _) n5))
        have H6 : Hid (Below hB w1 w5) := Lib.hid (by rw [hw5]; exact below_drewN H4.out n5)
        have H7 : Hid (bsN (ofN (front (bsN R) x)) = (bk (bsN r) ((bsN s).take (k + 1))).2) := Lib.hid (by
          rw [hsn, bsN_ofN]
          exact fun y hy => row_lt (front_row hrow hxb) hy)
        clear hw5
        go_wp2_with fail
        go_roundw
        case rel => exact ⟨k + 1, _, by omega, by go_num, rfl, H7.out, H5.out, H6.out⟩
        case measure => simp [intOf]; omega
      · obtain rfl : k = s.size := by omega
        have HF : Hid ((bsN s).take s.size = bsN s) := Lib.hid (List.take_of_length_le (by rw [HSL.out]; exact Nat.le_refl _))
        have HRF : Hid (R = ofN (bk (bsN r) (bsN s)).2) := Lib.hid (by rw [← HF.out, ← HRR.out, ofN_bsN])
        have ho2 := HO.out
        rw [HF.out] at ho2
        have hln : (bk (bsN r) (bsN s)).1.length = s.size := by rw [bk_length, HSL.out]
        have hlt1 := bk_lt (bsN s) _ HR.out HSB.out
        have B3 : Hid (Below w1.heap.size w1 wr) := Lib.hid (by rw [← HBH.out]; exact HB.out)
        rcases ho2.2 with ⟨rfl, hn⟩ | ⟨g, cap, cur, hv, _⟩
        · have hnil : (bk (bsN r) (bsN s)).1 = [] := List.length_eq_zero_iff.1 (by rw [hln]; exact hn)
          have HS : Hid ((⟨#[]⟩ : ByteArray) = ofN (bk (bsN r) (bsN s)).1) := Lib.hid (by rw [hnil]; rfl)
          have hbk0 := Lib.run_convert_nil_bytes (P := Try.prog) wr 37 9 5 0 Try.underlying37 Try.underlying5 Try.underlying9
          clear ho2 hln hlt1 hnil hn
          go_wp2_with fail
          refine bodyPost_ret (v := .tuple #[.string ⟨#[]⟩, .string R, .int .i64 0]) (by simp [results, Try.results10, go_sem]) rfl ?_
          exact mvp_mk (by rw [F.out, ← HS.out, ← HRF.out]) B3.out
        · subst hv
          have hby := bytes_of ho2 hlt1
          have hbk := Row.run_back hby cap
          rw [List.length_map, hln] at hbk
          obtain ⟨S, hS⟩ : ∃ S : ByteArray, S = ⟨((bk (bsN r) (bsN s)).1.map UInt8.ofNat).toArray⟩ := ⟨_, rfl⟩
          rw [← hS] at hbk
          have HS : Hid (S = ofN (bk (bsN r) (bsN s)).1) := Lib.hid hS
          clear hS hby ho2 hln hlt1
          go_wp2_with fail
          refine bodyPost_ret (v := .tuple #[.string S, .string R, .int .i64 0]) (by simp [results, Try.results10, go_sem]) rfl ?_
          exact mvp_mk (by rw [F.out, ← HS.out, ← HRF.out]) B3.out
end Go.Proofs.Ytbcdnnppbggifaa.Mt
