import Derived.Test.YtcjeeagnfmipgaaDoorJ
/- Whether parts are well made, by their codes. -/
namespace Go.Proofs.YtcjeeagnfmipgaaDoor
open Go.RowKit Go.Shelf

/-- Whether a part is well made, by its node. -/
def okM : Nd → Bool
  | (k, N, s, len) =>
    if k = 1 then decide (0 ≤ N) && decide (N ≤ 1099511627776) && decide (s = []) && ((len : Int) == 0)
    else if k = 2 then decide (s = []) && ((len : Int) == 0)
    else if k = 3 then decide (N = 0) && decide ((s.length : Int) ≤ 100) && ((len : Int) == 0)
    else if k = 4 then decide (N = 0) && decide ((s.length : Int) ≤ 100) && decide (1 ≤ (len : Int)) && decide ((len : Int) ≤ 50)
    else false
theorem bytes_long (s : ByteArray) : s.toList.length = s.size := by rw [ByteArray.toList_eq]; simp
theorem ok_m (x : TV) : x.ok = okM x.nd := by
  show wmB x.k x.N x.s x.len = okM (x.k, x.N, x.s.toList, x.len)
  unfold wmB okM
  rw [← bytes_long]
theorem okT_m {n : Nat} (t : Tm n) : okT t = (code t).all okM := by
  unfold okT code
  rw [List.all_map]
  congr 1
  funext x
  exact ok_m x
end Go.Proofs.YtcjeeagnfmipgaaDoor

