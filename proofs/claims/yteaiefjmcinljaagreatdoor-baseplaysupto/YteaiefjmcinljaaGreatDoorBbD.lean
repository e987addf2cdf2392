import Derived.Test.YteaiefjmcinljaaGreatDoorBbC
import Derived.Test.YteaiefjmcinljaaGreatDoorPs
namespace Go.Proofs.YteaiefjmcinljaaGreatDoor
open Go.RowKit Go.Shelf
theorem stands_holds{n b o:Nat}{L:List Nat}{sz:Nat}{W':World}{c:List Nd}{lo:Nat}(h:StandsB n b o L sz W' c)(hL:∀k∈L,lo≤k)(hsz:lo≤sz):∃y:TV,cellsAt W' b o y∧HoldsS (n+1) (lo≤ ·) W' y.val c:=by
 obtain⟨t',h1,h2,_,_,h5,h6⟩:=h
 refine⟨t'.tv,h1,?_⟩
 rw[←h5]
 exact holdsS_of h2 (blk_of h2 fun k hk=>by
  rcases h6 k hk with h | h
  ·exact hL k h
  ·exact Nat.le_trans hsz h)
theorem holdsS_set4{D lo:Nat}{W:World}{v:Value}{c:List Nd}(h:HoldsS D (lo≤ ·) W v c){b:Nat}(hb:b<lo)(o:Nat)(x:TV):HoldsS D (lo≤ ·) (set4 W b o x) v c:=
 h.fromS (fun k hk _=>set4_other W b o x (by have:lo≤k:=hk;omega)) (by rw[set4_size];exact Nat.le_refl _)
end Go.Proofs.YteaiefjmcinljaaGreatDoor
