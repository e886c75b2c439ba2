/- The walk of the law CrcOne. -/
import Derived.Test.YtbbokhelmhmgfaaDoorCrcLawsE
namespace Go.Proofs.YtbbokhelmhmgfaaDoor.Crc
open Go.RowKit

theorem one_bits (c : UInt8) (v : Nat) (hv : v < 256) : bits .xor .u8 (c.toNat : Int) (v : Int) = ((xb c v).toNat : Int) := by
  have h := xb_bits c v
  rw [← h]
  have : ((v : Int) % 256) = v := by omega
  rw [this]

set_option maxHeartbeats 2000000 in
theorem one_law (s : ByteArray) (a : Int) (v : Nat) (hv : v < 256) (w : World) (hs : s.size ≤ maxLen) (ht : TabOk w) :
    Calls Tryd.prog 7 #[.string s, .int .i64 a, .int .u8 v] w fun e w' => e = .returned (.bool true) ∧ Below w.heap.size w w' := by
  have hs' : s.size ≤ maxLen := hs
  unfold maxLen at hs'
  by_cases hbig : 65536 < s.size
  · have f1 : frameS s = ⟨#[]⟩ := if_pos hbig
    have f2 : frameE s = 1 := if_pos hbig
    go_enter Tryd.func7, Tryd.ntmps7
    go_wp2_with fail
    refine (lives_any _ ht).mono ?_
    rintro e w1 ⟨rfl, b1⟩
    have t1 := ht.below b1
    go_wp2_with fail
    refine (frame_any _ _ hs t1).mono ?_
    rintro e w2 ⟨rfl, b2⟩
    have c2 := b1.trans (b2.mono b1.size)
    rw [f1, f2]
    clear b1 b2 t1
    go_wp2_with fail
    go_ret
    exact ⟨rfl, c2⟩
  have f1 : frameS s = s ++ tailS s := if_neg hbig
  have f2 : frameE s = 0 := if_neg hbig
  have f3 := frame_open s (by omega)
  have hz : (s ++ tailS s).size = s.size + 4 := by rw [ByteArray.size_append, tailS_size]
  obtain ⟨f, hf⟩ : ∃ f, f = s ++ tailS s := ⟨_, rfl⟩
  rw [← hf] at f1 f3 hz
  have hfm : f.size ≤ maxLen := by unfold maxLen; omega
  have hss : (s.toList == s.toList) = true := by simp
  have HZ := Lib.hid hz
  have hfs : f.size ≤ 65540 := by omega
  have hfs2 : s.size + 4 ≤ f.size := by omega
  clear hz
  by_cases hout : a < 0 ∨ (f.size : Int) ≤ a ∨ v = 0
  · have H := Lib.hid hf
    clear hf
    go_enter Tryd.func7, Tryd.ntmps7
    go_wp2_with fail
    refine (lives_any _ ht).mono ?_
    rintro e w1 ⟨rfl, b1⟩
    have t1 := ht.below b1
    go_wp2_with fail
    refine (frame_any _ _ hs t1).mono ?_
    rintro e w2 ⟨rfl, b2⟩
    have c2 := b1.trans (b2.mono b1.size)
    have t2 := t1.below b2
    rw [f1, f2]
    clear b1 b2 t1 f1 f2
    go_wp2_with fail
    refine (open_any _ _ hfm t2).mono ?_
    rintro e w3 ⟨rfl, b3⟩
    have c3 := c2.trans (b3.mono c2.size)
    rw [f3.1, f3.2]
    clear b3 c2 t2 f3
    by_cases h1 : a < 0
    · go_wp2_with fail
      go_ret
      exact ⟨rfl, c3⟩
    by_cases h2 : (f.size : Int) ≤ a
    · go_wp2_with fail
      go_ret
      exact ⟨rfl, c3⟩
    have h3 : ((v : Int) == 0) = true := by rw [beq_iff_eq]; omega
    have h1' : 0 ≤ a := by omega
    have h2' : a < (f.size : Int) := by omega
    go_wp2_with fail
    go_ret
    exact ⟨rfl, c3⟩
  · obtain ⟨n, rfl⟩ := Int.eq_ofNat_of_zero_le (show 0 ≤ a by omega)
    have hn : n < f.size := by omega
    have h1 : (0 : Int) ≤ (n : Int) := by omega
    have h2 : (n : Int) < (f.size : Int) := by omega
    have h3 : ((v : Int) == 0) = false := by rw [beq_eq_false_iff_ne]; omega
    have hv0 : v ≠ 0 := by omega
    obtain ⟨x, hx⟩ : ∃ x, x = xb ((bytes f).getD n 0) v := ⟨_, rfl⟩
    have hne : x ≠ (bytes f).getD n 0 := by
      rw [hx]; intro e
      have e2 := congrArg UInt8.toNat e
      rw [xb_nat] at e2
      have e3 : ((bytes f).getD n 0).toNat ^^^ (((bytes f).getD n 0).toNat ^^^ (v % 256)) = 0 := by rw [e2, Nat.xor_self]
      rw [← Nat.xor_assoc, Nat.xor_self, Nat.zero_xor] at e3
      omega
    have g1 := frame_turned s (by omega) n (by have := HZ.out; omega) x (by rw [← hf]; exact hne)
    rw [← hf] at g1
    have g2 := apart_set f n x hn hne
    obtain ⟨G, hG⟩ : ∃ G : ByteArray, G = ⟨((bytes f).set n x).toArray⟩ := ⟨_, rfl⟩
    have hGm : G.size ≤ maxLen := by rw [hG, ← bytes_len, bytes_mk, List.length_set, bytes_len]; exact hfm
    rw [← hG] at g1 g2
    have HG := Lib.hid hG
    have hxb := one_bits ((bytes f).getD n 0) v hv
    rw [← hx] at hxb
    obtain ⟨c, hc⟩ : ∃ c, c = (bytes f).getD n 0 := ⟨_, rfl⟩
    rw [← hc] at hxb
    have HC := Lib.hid hc
    have hsz : (bytes f).length = f.size := bytes_len f
    have H := Lib.hid hf
    clear hf hout hbig hx hne hG hc
    go_enter Tryd.func7, Tryd.ntmps7
    go_wp2_with fail
    refine (lives_any _ ht).mono ?_
    rintro e w1 ⟨rfl, b1⟩
    have t1 := ht.below b1
    go_wp2_with fail
    refine (frame_any _ _ hs t1).mono ?_
    rintro e w2 ⟨rfl, b2⟩
    have c2 := b1.trans (b2.mono b1.size)
    have t2 := t1.below b2
    rw [f1, f2]
    clear b1 b2 t1 f1 f2
    go_wp2_with fail
    refine (open_any _ _ hfm t2).mono ?_
    rintro e w3 ⟨rfl, b3⟩
    have c3 := c2.trans (b3.mono c2.size)
    have t3 := t2.below b3
    rw [f3.1, f3.2]
    clear b3 c2 t2 f3
    have hmk := Row.run_make w3 f
    have r4 := Row.madeOf_bytes w3 f
    have b4 := Row.madeOf_below w3 f
    generalize hw4 : Row.madeOf w3 f = w4 at *
    clear hw4
    have cell := r4.cell n (by show n < (bytes f).length; omega)
    rw [show f.data.toList.getD n 0 = c from HC.out.symm] at cell
    have free := r4.free n (by show n < (bytes f).length; omega)
    have c4 := c3.trans (b4.mono c3.size)
    have r5 := r4.set n (by show n < (bytes f).length; omega) x
    have b5 := b4.setCell (p := ⟨w3.heap.size, n, none⟩) (Nat.le_refl _) (.int .u8 (x.toNat : Int))
    have hbk := Row.run_back r5 (grownCap w3 f.size 0 5)
    rw [List.length_set, show f.data.toList.length = f.size from hsz, show (⟨(f.data.toList.set n x).toArray⟩ : ByteArray) = G from HG.out.symm] at hbk
    have t5 := t3.below b5
    have c5 := c3.trans (b5.mono c3.size)
    have R5 := Lib.hid r5
    clear r4 b4 c4 c3 t3 r5 b5 HC H HZ
    go_wp2_with fail
    refine (open_any _ _ hGm t5).mono ?_
    rintro e w6 ⟨rfl, b6⟩
    have c6 := c5.trans (b6.mono c5.size)
    rw [g1]
    have hbk2 := Row.run_back (R5.out.below b6) (grownCap w3 f.size 0 5)
    rw [List.length_set, show f.data.toList.length = f.size from hsz, show (⟨(f.data.toList.set n x).toArray⟩ : ByteArray) = G from HG.out.symm] at hbk2
    clear t5 R5 HG hsz b6 c5 hbk cell free hmk
    go_wp2_with fail
    refine (apart_any _ _ _ hfm hGm).mono ?_
    rintro e w7 ⟨rfl, b7⟩
    have c7 := c6.trans (b7.mono c6.size)
    rw [g2.1, g2.2]
    clear b7 c6 g2
    go_wp2_with fail
    go_ret
    exact ⟨rfl, c7⟩
end Go.Proofs.YtbbokhelmhmgfaaDoor.Crc
