import Derived.Test.YtjdanfhbccpnpaaDoorMakesProof
import Derived.Test.YtjdanfhbccpnpaaDoorBbFs
/- BaseMakes: for every term, clause, name and number whose bulk is at most 1048576, base's Body, Make, Plain and Reserved say what the document says (the second form's card). -/
namespace Go.Proofs.YtjdanfhbccpnpaaDoor
open Go.RowKit Go.Shelf

/-- The contracts of base's four functions, as they landed. -/
def makesOps : MakesOps where
  Needs := fun _ _ => True
  needs := fun _ _ => trivial
  body := fun t ns _ W _ _ hT hns hn => body_any t ns W hT hns hn
  make := fun t _ W _ _ hT hl hn => bmake_any t W hT hl hn
  plain := fun th tb _ W _ _ hTH hTB hl hn => bplain_any th tb W hTH hTB hl hn
  res := fun s n _ W _ _ => bres_any s n W
theorem baseMakesUpto : Rows.BaseMakesUptoCardSaid := baseMakes_over makesOps fun _ _ => ⟨0, Nat.zero_le _, trivial⟩
end Go.Proofs.YtjdanfhbccpnpaaDoor

