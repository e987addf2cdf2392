import Derived.Test.YtjdanfhbccpnpaaDoorSplitLay
import Derived.Test.YtjdanfhbccpnpaaDoorOpAs
/- strings.Split at a blank: the contract. -/
namespace Go.Proofs.YtjdanfhbccpnpaaDoor
open Go.RowKit Go.Shelf Go.Maps

theorem split_any (s : ByteArray) (m : Int) (w : World) (hs : s.size < 4294967281) (hm : w.cell? ⟨splitLay_ren.g 1, 0, none⟩ = some (.int .i64 m)) :
    Calls Tryd.prog 23 #[.string s, .string ⟨#[32]⟩] w fun e w' =>
      e = .returned (.slice (some ⟨w.heap.size, 0, none⟩) (Lib.countB s ⟨#[32]⟩ + 1) (Lib.countB s ⟨#[32]⟩ + 1)) ∧ w' = w.alloc (.cells ((Lib.splitB ⟨#[32]⟩ 0 (Lib.countB s ⟨#[32]⟩) s).map Value.string).toArray 9) :=
  Any.strings_Split splitLay (by kernel_rfl) s ⟨#[32]⟩ m w hs hm (by decide)
end Go.Proofs.YtjdanfhbccpnpaaDoor

