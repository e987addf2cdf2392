import Derived.WalkKit
import Derived.WalkLawsBesides
import Derived.WalkSpells
import Derived.Test.YtjdanfhbccpnpaaProg
/- A term's four cells (TV), and the contract of term.wellMade: it answers wmB of them. -/
namespace Go.Proofs.Ytjdanfhbccpnpaa
open Go.RowKit

/-- The four cells of a term. -/
structure TV where
  k : Int
  N : Int
  s : ByteArray
  a : Option Addr
  len : Nat
  cap : Nat
def TV.cells (x : TV) : Array Value := #[.int .i64 x.k, .int .i64 x.N, .string x.s, .slice x.a x.len x.cap]
def TV.val (x : TV) : Value := .agg #[.int .i64 x.k, .int .i64 x.N, .string x.s, .slice x.a x.len x.cap]

def wmB (k N : Int) (s : ByteArray) (len : Nat) : Bool :=
  if k = 1 then decide (0 ≤ N) && decide (N ≤ 1099511627776) && decide (s.toList = []) && ((len : Int) == 0)
  else if k = 2 then decide (s.toList = []) && ((len : Int) == 0)
  else if k = 3 then decide (N = 0) && decide ((s.size : Int) ≤ 100) && ((len : Int) == 0)
  else if k = 4 then decide (N = 0) && decide ((s.size : Int) ≤ 100) && decide (1 ≤ (len : Int)) && decide ((len : Int) ≤ 50)
  else false

set_option maxHeartbeats 1000000 in
theorem wm_any (k N : Int) (s : ByteArray) (a : Option Addr) (len cap : Nat) (w : World) :
    Calls Try.prog 40 #[.agg #[.int .i64 k, .int .i64 N, .string s, .slice a len cap]] w fun e w' => e = .returned (.bool (wmB k N s len)) ∧ w' = w.alloc (.cells #[.int .i64 k, .int .i64 N, .string s, .slice a len cap] 24) := by
  go_enter Try.func40, Try.ntmps40
  go_wp2
  all_goals go_ret
  all_goals refine ⟨?_, ?_⟩
  all_goals first | rfl | (rw [‹N = 0›]) | skip
  all_goals simp_all [wmB]
  all_goals (intros; omega)
end Go.Proofs.Ytjdanfhbccpnpaa

