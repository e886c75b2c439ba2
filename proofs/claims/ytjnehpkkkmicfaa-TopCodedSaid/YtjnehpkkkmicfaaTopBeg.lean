/- wringertop's begins. -/
import Derived.Test.YtjnehpkkkmicfaaBnA
namespace Go.Proofs.Ytjnehpkkkmicfaa.Tb
open Go.RowKit Bt

theorem gv : getV ⟨#[160]⟩ 3 0 3 = 5 ∧ getE ⟨#[160]⟩ 3 0 3 = 0 := by decide +kernel

set_option maxHeartbeats 4000000 in
set_option maxRecDepth 100000 in
theorem begins_any (w : World) : Calls Try.prog 30 #[] w fun e w' => e = .returned (.bool true) ∧ Below w.heap.size w w' := by
  go_enter Try.func30, Try.ntmps30
  go_wp2_with fail
  refine (put_top ⟨#[]⟩ 0 5 3 _ (small (by decide)) (by decide)).mono ?_
  rintro e w1 ⟨rfl, b1⟩
  rw [px1, px2, px3]
  have x1 := Box.new w1 ⟨#[160]⟩ 3
  have c0 := x1.c0; have c1 := x1.c1
  have B1 := Lib.hid (b1.alloc b1.size (.cells #[.string ⟨#[160]⟩, .int .i64 3] 35)); have X1 := Lib.hid x1
  clear b1 x1
  go_wp2_with fail
  refine (get_any ⟨#[160]⟩ 3 0 3 _ (small (by decide))).mono ?_
  rintro e w2 ⟨rfl, b2⟩
  rw [gv.1, gv.2]
  have x2 := X1.out.below b2
  have d0 := x2.c0; have d1 := x2.c1
  have B2 := Lib.hid (B1.out.trans (b2.mono B1.out.size))
  clear b2 x2 X1 B1 c0 c1
  go_wp2_with fail
  go_ret
  exact ⟨rfl, B2.out⟩
end Go.Proofs.Ytjnehpkkkmicfaa.Tb
