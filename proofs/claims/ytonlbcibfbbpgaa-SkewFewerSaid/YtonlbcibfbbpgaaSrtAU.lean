/- The walk of the library's sort at uint64: less The walk of the library's sort at uint64: insertion The walk of the library's sort at uint64: sift down The walk of the library's sort at uint64: heap The walk of the library's sort at uint64: reverse The walk of the library's sort at uint64: the pivot The walk of the library's sort at uint64: the choice The walk of the library's sort at uint64: patterns -/
import Derived.Test.YtonlbcibfbbpgaaSrtK
import Derived.Test.YtonlbcibfbbpgaaShelf
namespace Go.Proofs.Ytonlbcibfbbpgaa.StU
open Go.RowKit Go.Lib Go.Sort Rw St

theorem isnan_any (x : Int) (w : World) : Calls Try.prog 64 #[.int .u64 x] w fun e w' => e = .returned (.bool false) ∧ w' = w := by
  go_enter Try.func64, Try.ntmps64
  go_wp2
  go_ret
  exact ⟨by simp, rfl⟩
end Go.Proofs.Ytonlbcibfbbpgaa.StU
namespace Go.Proofs.Ytonlbcibfbbpgaa.StU
open Go.RowKit Go.Lib Go.Sort Rw St

end Go.Proofs.Ytonlbcibfbbpgaa.StU
namespace Go.Proofs.Ytonlbcibfbbpgaa.StU
open Go.RowKit Go.Lib Go.Sort Rw St

end Go.Proofs.Ytonlbcibfbbpgaa.StU
namespace Go.Proofs.Ytonlbcibfbbpgaa.StU
open Go.RowKit Go.Lib Go.Sort Rw St

end Go.Proofs.Ytonlbcibfbbpgaa.StU
namespace Go.Proofs.Ytonlbcibfbbpgaa.StU
open Go.RowKit Go.Lib Go.Sort Rw St

end Go.Proofs.Ytonlbcibfbbpgaa.StU
namespace Go.Proofs.Ytonlbcibfbbpgaa.StU
open Go.RowKit Go.Lib Go.Sort Rw St

theorem order2_lt {d : Array Int} {a b t n : Nat} (ha : a < n) (hb : b < n) : (order2 ltInt d a b t).1 < n ∧ (order2 ltInt d a b t).2.1 < n ∧ (order2 ltInt d a b t).2.2 ≤ t + 1 := by
  refine ⟨?_, ?_, order2_count ltInt d a b t⟩ <;> rcases order2_mem ltInt d a b t with ⟨h1, h2⟩ | ⟨h1, h2⟩ <;> omega
theorem median_lt {d : Array Int} {a b e t n : Nat} (ha : a < n) (hb : b < n) (he : e < n) : (median ltInt d a b e t).1 < n ∧ (median ltInt d a b e t).2 ≤ t + 3 := by
  refine ⟨?_, median_count ltInt d a b e t⟩
  rcases median_mem ltInt d a b e t with h | h | h <;> omega
end Go.Proofs.Ytonlbcibfbbpgaa.StU
namespace Go.Proofs.Ytonlbcibfbbpgaa.StU
open Go.RowKit Go.Lib Go.Sort Rw St

/-- a place and a hint -/
def ChP (w0 : World) (blk off n : Nat) (d : Array Int) (r : Nat × Hint) (e : Ending) (w' : World) : Prop := e = .returned (.tuple #[.int .i64 r.1, .int .i64 (hintCode r.2)]) ∧ At .u64 w0 blk off n d w'
end Go.Proofs.Ytonlbcibfbbpgaa.StU
namespace Go.Proofs.Ytonlbcibfbbpgaa.StU
open Go.RowKit Go.Lib Go.Sort Rw St Op

end Go.Proofs.Ytonlbcibfbbpgaa.StU
