import Derived.Test.YtjdanfhbccpnpaaHds
import Derived.Test.YtjdanfhbccpnpaaD
import Derived.Test.YtjdanfhbccpnpaaHc
import Derived.Test.YtjdanfhbccpnpaaHss
import Derived.Deep.RegionHeld3
import Derived.Deep.Cut
import Derived.Test.YtjdanfhbccpnpaaUs
/- hornref.Is, hornref.Body. -/
namespace Go.Proofs.Ytjdanfhbccpnpaa
open Go.RowKit Go.Shelf

/-- An atom or a compound of a name with so many Args? -/
def isB (x : TV) (s : List UInt8) (n : Int) : Bool := (decide (x.k = 3) || decide (x.k = 4)) && (decide (x.s.toList = s) && ((x.len : Int) == n))
/-- Any block. -/
def anyB (_ : Nat) : Prop := True
theorem holdsS_one {D : Nat} {S : Nat → Prop} {W : World} {x : TV} {cx : List Nd} (hx : HoldsS D S W x.val cx) {b : Nat} (hS : S b)
    (hb : W.heap[b]? = some (.cells #[.int .i64 x.k, .int .i64 x.N, .string x.s, .slice x.a x.len x.cap] 24 (0, 0))) (s : ByteArray) (hs : s.size ≤ 9223372036854775807) :
    HoldsS (D + 1) S W (compV s (some ⟨b, 0, none⟩) 1 1).val ((4, 0, s.toList, 1) :: cx) := fun m hm hlm => by
  obtain ⟨M, rfl⟩ : ∃ M, m = M + 1 := ⟨m - 1, by omega⟩
  obtain ⟨t, h1, h2, h3, h4⟩ := hx M (by omega) (by omega)
  have hxt := tv_inj h1
  have hlt := (Array.getElem?_eq_some_iff.1 hb).1
  refine ⟨((compV s (some ⟨b, 0, none⟩) 1 1, [t]) : TV × List (Tm M)), rfl, ⟨rfl, ⟨by simp [Tm.tv, compV], by simp [Tm.tv, compV], hlm⟩, hs, .inr ⟨b, 0, rfl, hlt, fun j u hu => ?_⟩⟩, ⟨.inr ⟨b, 0, rfl, hS⟩, fun u hu => ?_⟩, ?_⟩
  · have hj : j = 0 ∧ u = t := by
      match j, hu with
      | 0, hu => exact ⟨rfl, by simpa [Tm.kids] using hu.symm⟩
      | k + 1, hu => simp [Tm.kids] at hu
    obtain ⟨rfl, rfl⟩ := hj
    refine ⟨?_, h2⟩
    rw [← hxt]
    refine ⟨?_, ?_, ?_, ?_⟩ <;> simp [World.cell?, hb]
  · have : u = t := by simpa [Tm.kids] using hu
    subst this
    exact h3
  · rw [code_succ]
    simp [h4, TV.nd, compV]
theorem holdsS_two {D : Nat} {S : Nat → Prop} {W : World} {x y : TV} {cx cy : List Nd} (hx : HoldsS D S W x.val cx) (hy : HoldsS D S W y.val cy) {b : Nat} (hS : S b)
    (hb : W.heap[b]? = some (.cells #[.int .i64 x.k, .int .i64 x.N, .string x.s, .slice x.a x.len x.cap, .int .i64 y.k, .int .i64 y.N, .string y.s, .slice y.a y.len y.cap] 24 (0, 0))) (s : ByteArray) (hs : s.size ≤ 9223372036854775807) :
    HoldsS (D + 1) S W (compV s (some ⟨b, 0, none⟩) 2 2).val ((4, 0, s.toList, 2) :: (cx ++ cy)) := fun m hm hlm => by
  obtain ⟨M, rfl⟩ : ∃ M, m = M + 1 := ⟨m - 1, by omega⟩
  obtain ⟨t, h1, h2, h3, h4⟩ := hx M (by omega) (by omega)
  obtain ⟨u, k1, k2, k3, k4⟩ := hy M (by omega) (by omega)
  have hxt := tv_inj h1
  have hyt := tv_inj k1
  have hlt := (Array.getElem?_eq_some_iff.1 hb).1
  refine ⟨((compV s (some ⟨b, 0, none⟩) 2 2, [t, u]) : TV × List (Tm M)), rfl, ⟨rfl, ⟨by simp [Tm.tv, compV], by simp [Tm.tv, compV], hlm⟩, hs, .inr ⟨b, 0, rfl, hlt, fun j v hv => ?_⟩⟩, ⟨.inr ⟨b, 0, rfl, hS⟩, fun v hv => ?_⟩, ?_⟩
  · have hj : (j = 0 ∧ v = t) ∨ (j = 1 ∧ v = u) := by
      match j, hv with
      | 0, hv => exact .inl ⟨rfl, by simpa [Tm.kids] using hv.symm⟩
      | 1, hv => exact .inr ⟨rfl, by simpa [Tm.kids] using hv.symm⟩
      | k + 2, hv => simp [Tm.kids] at hv
    rcases hj with ⟨rfl, rfl⟩ | ⟨rfl, rfl⟩
    · refine ⟨?_, h2⟩
      rw [← hxt]
      refine ⟨?_, ?_, ?_, ?_⟩ <;> simp [World.cell?, hb]
    · refine ⟨?_, k2⟩
      rw [← hyt]
      refine ⟨?_, ?_, ?_, ?_⟩ <;> simp [World.cell?, hb]
  · have : v = t ∨ v = u := by simpa [Tm.kids] using hv
    rcases this with rfl | rfl
    · exact h3
    · exact k3
  · rw [code_succ]
    simp [h4, k4, TV.nd, compV]
theorem mix_set4 {D ns lo : Nat} {W : World} {v : Value} {c : List Nd} (h : HoldsS D (Mix ns lo) W v c) {b : Nat} (h1 : ns ≤ b) (h2 : b < lo) (o : Nat) (x : TV) : HoldsS D (Mix ns lo) (set4 W b o x) v c := fun m hm hlm => by
  obtain ⟨t, k1, k2, k3, k4⟩ := h m hm hlm
  exact ⟨t, k1, by rw [set4_size]; exact k2.fromS (fun q hq => set4_other W b o x (by unfold Mix at hq; omega)) k3, k3, k4⟩
theorem mix_mono {D D' ns lo lo' : Nat} {W : World} {v : Value} {c : List Nd} (h : HoldsS D (Mix ns lo) W v c) (hD : D ≤ D') (hl : lo' ≤ lo) : HoldsS D' (Mix ns lo') W v c := h.mono hD fun b hb => by unfold Mix at hb ⊢; omega
/-- A term that was handed in, as one that shares memory. -/
theorem mix_of {n ns : Nat} {W : World} {t : Tm n} (hT : IsT ns W t) (hns : ns ≤ W.heap.size) (lo : Nat) : HoldsS n (Mix ns lo) W t.tv.val (code t) :=
  holdsS_of (hT.mono hns) (hT.blk.mono fun _ h => .inl h)

/-- `,`, `;` and `->` of two. -/
def junct (x : TV) : Bool := isB x [44] 2 || (isB x [59] 2 || isB x [45, 62] 2)
def callL : List UInt8 := [99, 97, 108, 108]
def bodyJ (s : List UInt8) : List (Option (List Nd)) → Option (List Nd)
  | [some x, some y] => some ((4, 0, s, 2) :: (x ++ y))
  | _ => none
/-- The code of a body. -/
def bodyC : {n : Nat} → Tm n → Option (List Nd)
  | 0, t => Empty.elim t
  | _ + 1, t => if t.tv.k = 1 then some ((4, 0, callL, 1) :: code t) else if t.tv.k = 2 then none else if junct t.tv = true then bodyJ t.tv.s.toList (t.kids.map bodyC) else some (code t)
/-- What a term's value is, by the code of a body. -/
def BodyIs (D ns lo : Nat) (W : World) (x : TV) : Option (List Nd) → Prop
  | some c => HoldsS D (Mix ns lo) W x.val c
  | none => x = noTerm
def BSays (D ns lo : Nat) (r : Option (List Nd)) (e : Ending) (W' : World) : Prop := ∃ x : TV, e = .returned (.tuple #[x.val, .bool r.isSome]) ∧ BodyIs D ns lo W' x r

theorem callL_eq : (⟨#[99, 97, 108, 108]⟩ : ByteArray).toList = callL := by decide +kernel
end Go.Proofs.Ytjdanfhbccpnpaa

/- hornref.Body of two bodies; whole. -/
namespace Go.Proofs.Ytjdanfhbccpnpaa
open Go.RowKit Go.Shelf

theorem bodyC_succ {n : Nat} (x : TV) (kids : List (Tm n)) : bodyC (n := n + 1) ((x, kids) : TV × List (Tm n)) = if x.k = 1 then some ((4, 0, callL, 1) :: code (n := n + 1) ((x, kids) : TV × List (Tm n))) else if x.k = 2 then none else if junct x = true then bodyJ x.s.toList (kids.map bodyC) else some (code (n := n + 1) ((x, kids) : TV × List (Tm n))) := rfl
theorem junct_len {x : TV} (h : junct x = true) : x.len = 2 := by
  simp only [junct, isB, Bool.or_eq_true, Bool.and_eq_true, beq_iff_eq] at h
  rcases h with h | h | h
  · have := h.2.2; omega
  · have := h.2.2; omega
  · have := h.2.2; omega
end Go.Proofs.Ytjdanfhbccpnpaa

/- hornref.Reserved. -/
namespace Go.Proofs.Ytjdanfhbccpnpaa
open Go.RowKit Go.Shelf Go.Maps

def resT0 : ByteArray := ⟨#[116, 114, 117, 101, 32, 102, 97, 105, 108, 32, 33, 32, 110, 108]⟩
def resN0 : List ByteArray := [⟨#[116, 114, 117, 101]⟩, ⟨#[102, 97, 105, 108]⟩, ⟨#[33]⟩, ⟨#[110, 108]⟩]
theorem resS0 : Lib.splitB ⟨#[32]⟩ 0 (Lib.countB resT0 ⟨#[32]⟩) resT0 = resN0 := by kernel_rfl
theorem resC0 : Lib.countB resT0 ⟨#[32]⟩ + 1 = 4 := by kernel_rfl
theorem resZ0 : resT0.size < 4294967281 := by decide +kernel
theorem resL0 : resN0.length = 4 := by decide +kernel
def resT1 : ByteArray := ⟨([92, 43, 32, 116, 104, 114, 111, 119, 32, 118, 97, 114, 32, 110, 111, 110, 118, 97, 114, 32, 97, 116, 111, 109, 32, 105, 110, 116, 101, 103, 101, 114, 32, 97, 116, 111, 109, 105, 99, 32, 99, 111, 109, 112, 111, 117, 110, 100].append [32, 99, 97, 108, 108, 97, 98, 108, 101, 32, 103, 114, 111, 117, 110, 100, 32, 97, 115, 115, 101, 114, 116, 122, 32, 97, 115, 115, 101, 114, 116, 97, 32, 114, 101, 116, 114, 97, 99, 116, 32, 112, 114, 105, 110, 116, 32, 58, 45]).toArray⟩
def resN1 : List ByteArray := [⟨#[92, 43]⟩, ⟨#[116, 104, 114, 111, 119]⟩, ⟨#[118, 97, 114]⟩, ⟨#[110, 111, 110, 118, 97, 114]⟩, ⟨#[97, 116, 111, 109]⟩, ⟨#[105, 110, 116, 101, 103, 101, 114]⟩, ⟨#[97, 116, 111, 109, 105, 99]⟩, ⟨#[99, 111, 109, 112, 111, 117, 110, 100]⟩, ⟨#[99, 97, 108, 108, 97, 98, 108, 101]⟩, ⟨#[103, 114, 111, 117, 110, 100]⟩, ⟨#[97, 115, 115, 101, 114, 116, 122]⟩, ⟨#[97, 115, 115, 101, 114, 116, 97]⟩, ⟨#[114, 101, 116, 114, 97, 99, 116]⟩, ⟨#[112, 114, 105, 110, 116]⟩, ⟨#[58, 45]⟩]
theorem resS1 : Lib.splitB ⟨#[32]⟩ 0 (Lib.countB resT1 ⟨#[32]⟩) resT1 = resN1 := by kernel_rfl
theorem resC1 : Lib.countB resT1 ⟨#[32]⟩ + 1 = 15 := by kernel_rfl
theorem resZ1 : resT1.size < 4294967281 := by decide +kernel
theorem resL1 : resN1.length = 15 := by decide +kernel
def resT2 : ByteArray := ⟨([44, 32, 59, 32, 45, 62, 32, 61, 32, 92, 61, 32, 61, 61, 32, 92, 61, 61, 32, 64, 60, 32, 64, 62, 32, 64, 61, 60, 32, 64, 62, 61, 32, 61, 46, 46, 32, 99, 111, 112, 121, 95, 116, 101, 114, 109, 32, 105, 115, 32, 61, 58, 61, 32].append [61, 92, 61, 32, 60, 32, 62, 32, 61, 60, 32, 62, 61, 32, 97, 116, 111, 109, 95, 108, 101, 110, 103, 116, 104, 32, 97, 116, 111, 109, 95, 99, 104, 97, 114, 115, 32, 108, 101, 110, 103, 116, 104, 32, 115, 111, 114, 116, 32, 58, 45, 32, 45, 45, 62]).toArray⟩
def resN2 : List ByteArray := [⟨#[44]⟩, ⟨#[59]⟩, ⟨#[45, 62]⟩, ⟨#[61]⟩, ⟨#[92, 61]⟩, ⟨#[61, 61]⟩, ⟨#[92, 61, 61]⟩, ⟨#[64, 60]⟩, ⟨#[64, 62]⟩, ⟨#[64, 61, 60]⟩, ⟨#[64, 62, 61]⟩, ⟨#[61, 46, 46]⟩, ⟨#[99, 111, 112, 121, 95, 116, 101, 114, 109]⟩, ⟨#[105, 115]⟩, ⟨#[61, 58, 61]⟩, ⟨#[61, 92, 61]⟩, ⟨#[60]⟩, ⟨#[62]⟩, ⟨#[61, 60]⟩, ⟨#[62, 61]⟩, ⟨#[97, 116, 111, 109, 95, 108, 101, 110, 103, 116, 104]⟩, ⟨#[97, 116, 111, 109, 95, 99, 104, 97, 114, 115]⟩, ⟨#[108, 101, 110, 103, 116, 104]⟩, ⟨#[115, 111, 114, 116]⟩, ⟨#[58, 45]⟩, ⟨#[45, 45, 62]⟩]
theorem resS2 : Lib.splitB ⟨#[32]⟩ 0 (Lib.countB resT2 ⟨#[32]⟩) resT2 = resN2 := by kernel_rfl
theorem resC2 : Lib.countB resT2 ⟨#[32]⟩ + 1 = 26 := by kernel_rfl
theorem resZ2 : resT2.size < 4294967281 := by decide +kernel
theorem resL2 : resN2.length = 26 := by decide +kernel
def resT3 : ByteArray := ⟨#[99, 97, 116, 99, 104, 32, 102, 105, 110, 100, 97, 108, 108, 32, 99, 111, 109, 112, 97, 114, 101, 32, 102, 117, 110, 99, 116, 111, 114, 32, 97, 114, 103, 32, 98, 101, 116, 119, 101, 101, 110]⟩
def resN3 : List ByteArray := [⟨#[99, 97, 116, 99, 104]⟩, ⟨#[102, 105, 110, 100, 97, 108, 108]⟩, ⟨#[99, 111, 109, 112, 97, 114, 101]⟩, ⟨#[102, 117, 110, 99, 116, 111, 114]⟩, ⟨#[97, 114, 103]⟩, ⟨#[98, 101, 116, 119, 101, 101, 110]⟩]
theorem resS3 : Lib.splitB ⟨#[32]⟩ 0 (Lib.countB resT3 ⟨#[32]⟩) resT3 = resN3 := by kernel_rfl
theorem resC3 : Lib.countB resT3 ⟨#[32]⟩ + 1 = 6 := by kernel_rfl
theorem resZ3 : resT3.size < 4294967281 := by decide +kernel
theorem resL3 : resN3.length = 6 := by decide +kernel
/-- Is a predicate reserved? -/
def resB (s : List UInt8) (n : Int) : Bool :=
  if s == [99, 97, 108, 108] then decide (1 ≤ n) && decide (n ≤ 8)
  else if n = 0 then resN0.any fun x => x.toList == s
  else if n = 1 then resN1.any fun x => x.toList == s
  else if n = 2 then resN2.any fun x => x.toList == s
  else if n = 3 then resN3.any fun x => x.toList == s
  else false
theorem names_cell {w : World} (L : List ByteArray) {j : Nat} {x : ByteArray} (h : L[j]? = some x) : (w.alloc (.cells (L.map Value.string).toArray 9)).cell? ⟨w.heap.size, j, none⟩ = some (.string x) := by
  have hb := World.alloc_heap_new w (.cells (L.map Value.string).toArray 9)
  simp only [World.cell?, hb]
  simp [h]
end Go.Proofs.Ytjdanfhbccpnpaa

/- hornref.Vars of two terms; what hornref.Make begins with. -/
namespace Go.Proofs.Ytjdanfhbccpnpaa
open Go.RowKit Go.Shelf

end Go.Proofs.Ytjdanfhbccpnpaa

/- hornref.Make. -/
namespace Go.Proofs.Ytjdanfhbccpnpaa
open Go.RowKit Go.Shelf

/-- A clause's eight cells. -/
def clV (x y : TV) : Value := .agg #[.int .i64 x.k, .int .i64 x.N, .string x.s, .slice x.a x.len x.cap, .int .i64 y.k, .int .i64 y.N, .string y.s, .slice y.a y.len y.cap]
def BoxC (W : World) (B : Nat) (x y : TV) : Prop := W.heap[B]? = some (.cells #[.int .i64 x.k, .int .i64 x.N, .string x.s, .slice x.a x.len x.cap, .int .i64 y.k, .int .i64 y.N, .string y.s, .slice y.a y.len y.cap] 30 (0, 0))
theorem BoxC.lt {W : World} {B : Nat} {x y : TV} (h : BoxC W B x y) : B < W.heap.size := (Array.getElem?_eq_some_iff.1 h).1
theorem BoxC.new (W : World) (x y : TV) : BoxC (W.alloc (.cells #[.int .i64 x.k, .int .i64 x.N, .string x.s, .slice x.a x.len x.cap, .int .i64 y.k, .int .i64 y.N, .string y.s, .slice y.a y.len y.cap] 30)) W.heap.size x y := World.alloc_heap_new W _
theorem BoxC.below {A B : World} {n k : Nat} {x y : TV} (h : BoxC A k x y) (hb : Below n A B) (hk : k < n) : BoxC B k x y := (hb.block k hk).trans h
theorem BoxC.set4 {W : World} {k b : Nat} {x y : TV} (h : BoxC W k x y) (hk : k ≠ b) (z : TV) : BoxC (set4 W b 0 z) k x y := (set4_other W b 0 z hk).trans h
theorem BoxC.cs {W : World} {B : Nat} {x y : TV} (h : BoxC W B x y) : (W.cell? ⟨B, 0, none⟩ = some (.int .i64 x.k) ∧ W.cell? ⟨B, 1, none⟩ = some (.int .i64 x.N) ∧ W.cell? ⟨B, 2, none⟩ = some (.string x.s) ∧ W.cell? ⟨B, 3, none⟩ = some (.slice x.a x.len x.cap)) ∧ (W.cell? ⟨B, 4, none⟩ = some (.int .i64 y.k) ∧ W.cell? ⟨B, 5, none⟩ = some (.int .i64 y.N) ∧ W.cell? ⟨B, 6, none⟩ = some (.string y.s) ∧ W.cell? ⟨B, 7, none⟩ = some (.slice y.a y.len y.cap)) := by
  have h' : W.heap[B]? = _ := h
  refine ⟨⟨?_, ?_, ?_, ?_⟩, ?_, ?_, ?_, ?_⟩ <;> simp [World.cell?, h']
theorem BoxC.fs {W : World} {B : Nat} {x y : TV} (h : BoxC W B x y) : W.frozen? ⟨B, 0, none⟩ = false ∧ W.frozen? ⟨B, 1, none⟩ = false ∧ W.frozen? ⟨B, 2, none⟩ = false ∧ W.frozen? ⟨B, 3, none⟩ = false ∧ W.frozen? ⟨B, 4, none⟩ = false ∧ W.frozen? ⟨B, 5, none⟩ = false ∧ W.frozen? ⟨B, 6, none⟩ = false ∧ W.frozen? ⟨B, 7, none⟩ = false := by
  have h' : W.heap[B]? = _ := h
  refine ⟨?_, ?_, ?_, ?_, ?_, ?_, ?_, ?_⟩ <;> simp [World.frozen?, h']
def set8 (W : World) (b : Nat) (x y : TV) : World := set4 (set4 W b 0 x) b 4 y
theorem set8_below {n : Nat} {A W : World} (h : Below n A W) {b : Nat} (hb : n ≤ b) (x y : TV) : Below n A (set8 W b x y) := set4_below (set4_below h hb 0 x) hb 4 y
theorem mix_set8 {D ns lo : Nat} {W : World} {v : Value} {c : List Nd} (h : HoldsS D (Mix ns lo) W v c) {b : Nat} (h1 : ns ≤ b) (h2 : b < lo) (x y : TV) : HoldsS D (Mix ns lo) (set8 W b x y) v c := mix_set4 (mix_set4 h h1 h2 0 x) h1 h2 4 y
theorem box_clause (W : World) (x : TV) : ∃ W2, (W.alloc (.cells #[.int .i64 x.k, .int .i64 x.N, .string x.s, .slice x.a x.len x.cap] 24)).alloc (.cells #[.int .i64 0, .int .i64 0, .string ⟨#[]⟩, .slice none 0 0, .int .i64 0, .int .i64 0, .string ⟨#[]⟩, .slice none 0 0] 30) = W2 ∧ Below W.heap.size W W2 ∧ W.heap.size + 2 ≤ W2.heap.size ∧ BoxT W2 W.heap.size x ∧ BoxC W2 (W.heap.size + 1) noTerm noTerm := by
  refine ⟨_, rfl, ((Below.refl _ W).alloc (Nat.le_refl _) _).alloc (by simp) _, by simp, (BoxT.new W x).alloc _, ?_⟩
  have h := BoxC.new (W.alloc (.cells #[.int .i64 x.k, .int .i64 x.N, .string x.s, .slice x.a x.len x.cap] 24)) noTerm noTerm
  rw [World.size_alloc] at h
  exact h

def trueL : List UInt8 := [116, 114, 117, 101]
/-- The numbers that the variables of a clause get. -/
def clVars (h b : List Nd) : List Int := varsC (varsC [] h) b
def clRen (h b c : List Nd) : List Nd := c.flatMap (subN (renN 0 (clVars h b)))
/-- May a term not be a head? -/
def headBad (x : TV) : Bool := decide (x.k = 1) || (decide (x.k = 2) || resB x.s.toList x.len)
def makeJ (bad : Bool) (h : List Nd) : Option (List Nd) → Option (List Nd × List Nd)
  | none => none
  | some b => if bad = true then none else some (clRen h b h, clRen h b b)
/-- What Make answers: both terms of a clause. -/
def ClIs (D lo : Nat) (W : World) (x y : TV) : Option (List Nd × List Nd) → Prop
  | some (h, b) => HoldsS D (Mix 0 lo) W x.val h ∧ HoldsS D (Mix 0 lo) W y.val b
  | none => x = noTerm ∧ y = noTerm
def ClSays (D lo : Nat) (r : Option (List Nd × List Nd)) (e : Ending) (W' : World) : Prop := ∃ x y : TV, e = .returned (.tuple #[clV x y, .bool r.isSome]) ∧ ClIs D lo W' x y r
theorem clVars_mem_h {h b : List Nd} : ∀ N, IsVarOf h N → N ∈ clVars h b := fun N hN => (steps_mem b _ N).2 (.inl ((steps_mem h [] N).2 (.inr hN)))
theorem clVars_mem_b {h b : List Nd} : ∀ N, IsVarOf b N → N ∈ clVars h b := fun N hN => (steps_mem b _ N).2 (.inr hN)
theorem clVars_len (h b : List Nd) : (clVars h b).length ≤ h.length + b.length := by
  have h1 := varsC_len [] h
  have h2 := varsC_len (varsC [] h) b
  simp only [List.length_nil, Nat.zero_add] at h1
  unfold clVars
  omega
end Go.Proofs.Ytjdanfhbccpnpaa

/- hornref.Make of a rule; whole. -/
namespace Go.Proofs.Ytjdanfhbccpnpaa
open Go.RowKit Go.Shelf

theorem body_fine : ∀ {n : Nat} {t : Tm n} {c : List Nd}, Wl t → okT t = true → bodyC t = some c → c.all okM = true ∧ c.length ≤ 2 * (code t).length := by
  intro n
  induction n with
  | zero => intro t; exact Empty.elim t
  | succ n ih =>
    intro t c hw hok hb
    have hok0 := hok
    rw [okT_m] at hok
    obtain ⟨x, kids⟩ := t
    rw [bodyC_succ] at hb
    by_cases k1 : x.k = 1
    · rw [if_pos k1] at hb
      cases hb
      refine ⟨?_, ?_⟩
      · simp only [List.all_cons, hok, Bool.and_true]
        decide +kernel
      · have : 1 ≤ (code (n := n + 1) ((x, kids) : TV × List (Tm n))).length := by rw [code_succ]; simp
        simp only [List.length_cons]
        omega
    · rw [if_neg k1] at hb
      by_cases k2 : x.k = 2
      · rw [if_pos k2] at hb; cases hb
      · rw [if_neg k2] at hb
        cases hj : junct x with
        | false =>
          rw [hj, if_neg (by simp)] at hb
          cases hb
          exact ⟨hok, by omega⟩
        | true =>
          rw [hj, if_pos rfl] at hb
          have hl := junct_len hj
          have hl2 : x.len = kids.length := hw.1
          obtain ⟨u, v, rfl⟩ : ∃ u v, kids = [u, v] := by
            match kids, (show kids.length = 2 by omega) with
            | [u, v], _ => exact ⟨u, v, rfl⟩
          have hk := (ok_kids hok0).2
          have hwk : ∀ y ∈ [u, v], Wl y := hw.2
          have hwm := (ok_kids hok0).1
          simp only [List.map_cons, List.map_nil] at hb
          cases hu : bodyC u with
          | none => rw [hu] at hb; cases hb
          | some cu =>
            cases hv : bodyC v with
            | none => rw [hu, hv] at hb; cases hb
            | some cv =>
              rw [hu, hv] at hb
              cases (show some _ = some c from hb)
              obtain ⟨a1, a2⟩ := ih (hwk u (by simp)) (hk u (by simp)) hu
              obtain ⟨b1, b2⟩ := ih (hwk v (by simp)) (hk v (by simp)) hv
              have hx : okM x.nd = true := by rw [← ok_m]; exact hwm
              have hx4 : x.k = 4 ∧ x.N = 0 := by
                rcases wm_cases hwm with ⟨h, _⟩ | ⟨_, h⟩ | ⟨h, h', _⟩
                · omega
                · omega
                · exact ⟨h, h'⟩
              have hx' : okM (4, 0, x.s.toList, 2) = true := by
                have e : x.nd = (4, 0, x.s.toList, 2) := by simp [TV.nd, hx4.1, hx4.2, hl]
                rw [← e]; exact hx
              refine ⟨by simp [hx', a1, b1], ?_⟩
              rw [code_succ]
              simp only [List.length_cons, List.length_append, List.flatMap_cons, List.flatMap_nil, List.append_nil]
              omega
/-- The code of a clause's two terms. -/
def makeC {n : Nat} (t : Tm (n + 1)) : Option (List Nd × List Nd) :=
  if isB t.tv [58, 45] 2 = true then (match t.kids with | [u, v] => makeJ (headBad u.tv) (code u) (bodyC v) | _ => none) else makeJ (headBad t.tv) (code t) (some (atomC trueL))
end Go.Proofs.Ytjdanfhbccpnpaa

/- hornref.Plain. -/
namespace Go.Proofs.Ytjdanfhbccpnpaa
open Go.RowKit Go.Shelf

/-- A number of storeys, no greater than k. -/
abbrev Upto (k : Nat) : Type := { D : Nat // D ≤ k }
theorem upto_one {k : Nat} (D : Upto k) (h : k + 1 ≤ 2199023255552) : D.1 + 1 ≤ 2199023255552 := by have := D.2; omega
theorem upto_two {k k' : Nat} (D : Upto k) (D' : Upto k') (h : k + k' ≤ 2199023255552) : D.1 + D'.1 ≤ 2199023255552 := by have := D.2; have := D'.2; omega
theorem upto_left {k d : Nat} (D : Upto k) (h : k + d ≤ 2199023255552) : D.1 + d ≤ 2199023255552 := by have := D.2; omega
theorem upto_right {k d : Nat} (D : Upto k) (h : d + k ≤ 2199023255552) : d + D.1 ≤ 2199023255552 := by have := D.2; omega
theorem same_shared {D D' : Nat} {S S' : Nat → Prop} {W : World} {v v' : Value} {c c' : List Nd} (h : HoldsS D S W v c) (h' : HoldsS D' S' W v' c') (hD : D + D' ≤ 2199023255552 := by first | omega | exact upto_two _ _ (by omega) | exact upto_left _ (by omega) | exact upto_right _ (by omega)) :
    Calls Try.prog 12 #[v, v'] W fun e W' => e = .returned (.bool (decide (c = c'))) ∧ Below W.heap.size W W' := by
  obtain ⟨t, rfl, hT, -, hc⟩ := h (D + D') (by omega) hD
  obtain ⟨t', rfl, hT', -, hc'⟩ := h' (D + D') (by omega) hD
  have hs := same_any _ t t' W hT hT'
  rw [sameT_code hT.wl hT'.wl, hc, hc'] at hs
  exact hs
theorem box_plain (W : World) (x y : TV) : ∃ W2, (W.alloc (.cells #[.int .i64 x.k, .int .i64 x.N, .string x.s, .slice x.a x.len x.cap, .int .i64 y.k, .int .i64 y.N, .string y.s, .slice y.a y.len y.cap] 30)).alloc (.cells #[.int .i64 0, .int .i64 0, .string ⟨#[]⟩, .slice none 0 0] 24) = W2 ∧ Below W.heap.size W W2 ∧ W.heap.size + 2 ≤ W2.heap.size ∧ BoxC W2 W.heap.size x y ∧ BoxT W2 (W.heap.size + 1) noTerm := by
  refine ⟨_, rfl, ((Below.refl _ W).alloc (Nat.le_refl _) _).alloc (by simp) _, by simp, (Below.heap_alloc _ _ _ (by simp)).trans (BoxC.new W x y), ?_⟩
  have h := BoxT.new (W.alloc (.cells #[.int .i64 x.k, .int .i64 x.N, .string x.s, .slice x.a x.len x.cap, .int .i64 y.k, .int .i64 y.N, .string y.s, .slice y.a y.len y.cap] 30)) noTerm
  rw [World.size_alloc] at h
  exact h
/-- What Plain answers beside an error or none. -/
def PSays (D ns lo : Nat) (err : Int) (c : List Nd) (e : Ending) (W' : World) : Prop := ∃ x : TV, e = .returned (.tuple #[x.val, .int .i64 err]) ∧ (err = 0 → HoldsS D (Mix ns lo) W' x.val c) ∧ (err ≠ 0 → x = noTerm)
def plainE (r : Option (List Nd × List Nd)) (h b : List Nd) : Int :=
  match r with
  | some (h', b') => if h' = h ∧ b' = b then 0 else 7
  | none => 7
theorem colonL : (⟨#[58, 45]⟩ : ByteArray).toList = [58, 45] := by decide +kernel
/-- The term of a rule. -/
def ruleT {n : Nat} (blk : Nat) (th tb : Tm n) : Tm (n + 1) := ((compV ⟨#[58, 45]⟩ (some ⟨blk, 0, none⟩) 2 2, [th, tb]) : TV × List (Tm n))
theorem rule_code {n : Nat} (blk : Nat) (th tb : Tm n) : code (ruleT blk th tb) = (4, 0, [58, 45], 2) :: (code th ++ code tb) := by
  unfold ruleT
  rw [code_succ]
  simp [TV.nd, compV]
theorem rule_make {n : Nat} (blk : Nat) (th tb : Tm n) : makeC (ruleT blk th tb) = makeJ (headBad th.tv) (code th) (bodyC tb) := by
  have h : isB (compV ⟨#[58, 45]⟩ (some ⟨blk, 0, none⟩) 2 2) [58, 45] 2 = true := by simp [isB, compV]
  exact if_pos h
end Go.Proofs.Ytjdanfhbccpnpaa

/- What BaseMakes' two sides answer. -/
namespace Go.Proofs.Ytjdanfhbccpnpaa
open Go.RowKit Go.Shelf

def TAns (k ns lo : Nat) (err : Int) (c : List Nd) (e : Ending) (W' : World) : Prop := ∃ (D : Upto k) (x : TV), e = .returned (.tuple #[x.val, .int .i64 err]) ∧ HoldsS D.1 (Mix ns lo) W' x.val c
def CAns (k ns lo : Nat) (err : Int) (h b : List Nd) (e : Ending) (W' : World) : Prop := ∃ (D : Upto k) (x y : TV), e = .returned (.tuple #[clV x y, .int .i64 err]) ∧ HoldsS D.1 (Mix ns lo) W' x.val h ∧ HoldsS D.1 (Mix ns lo) W' y.val b
def TYes (k ns lo : Nat) (ok : Bool) (c : List Nd) (e : Ending) (W' : World) : Prop := ∃ (D : Upto k) (x : TV), e = .returned (.tuple #[x.val, .bool ok]) ∧ HoldsS D.1 (Mix ns lo) W' x.val c
def CYes (k ns lo : Nat) (ok : Bool) (h b : List Nd) (e : Ending) (W' : World) : Prop := ∃ (D : Upto k) (x y : TV), e = .returned (.tuple #[clV x y, .bool ok]) ∧ HoldsS D.1 (Mix ns lo) W' x.val h ∧ HoldsS D.1 (Mix ns lo) W' y.val b
theorem no_shared (D ns lo : Nat) (hD : 1 ≤ D) (W : World) : HoldsS D (Mix ns lo) W noTerm.val noC := (no_holds D lo hD W).shared fun _ h => .inr h
def orNo : Option (List Nd) → List Nd
  | some c => c
  | none => noC
def orNo2 : Option (List Nd × List Nd) → List Nd × List Nd
  | some c => c
  | none => (noC, noC)
/-- Body, Make, Plain: the error and the answer (the zero term where there is none). -/
def bodyR {n : Nat} (t : Tm n) : Int × List Nd := if okT t = true then (if (bodyC t).isSome = true then 0 else 7, orNo (bodyC t)) else (2, noC)
def makeR {n : Nat} (t : Tm (n + 1)) : Int × List Nd × List Nd := if okT t = true then (if (makeC t).isSome = true then 0 else 7, orNo2 (makeC t)) else (2, noC, noC)
def plainR {n : Nat} (th tb : Tm (n + 1)) : Int × List Nd :=
  if okT th = true ∧ okT tb = true then
    (if isB tb.tv trueL 0 = true then (if plainE (makeC th.lift) (code th) (code tb) = 0 then (0, code th) else (7, noC))
     else (if plainE (makeJ (headBad th.tv) (code th) (bodyC tb)) (code th) (code tb) = 0 then (0, (4, 0, [58, 45], 2) :: (code th ++ code tb)) else (7, noC)))
  else (2, noC)
theorem plainE_two (r : Option (List Nd × List Nd)) (h b : List Nd) : plainE r h b = 0 ∨ plainE r h b = 7 := by
  unfold plainE
  split
  · split
    · exact .inl rfl
    · exact .inr rfl
  · exact .inr rfl
theorem psays_ans {D ns lo : Nat} {k : Nat} (hD : 1 ≤ D) (hD2 : D ≤ k) {err : Int} {c : List Nd} {e : Ending} {W' : World} (h : PSays D ns lo err c e W') (he : err = 0 ∨ err = 7) : TAns k ns lo (if err = 0 then (0, c) else (7, noC) : Int × List Nd).1 (if err = 0 then (0, c) else (7, noC) : Int × List Nd).2 e W' := by
  obtain ⟨x, h1, h2, h3⟩ := h
  rcases he with rfl | rfl
  · rw [if_pos rfl]
    exact ⟨⟨D, hD2⟩, x, h1, h2 rfl⟩
  · rw [if_neg (by omega)]
    obtain rfl := h3 (by omega)
    exact ⟨⟨D, hD2⟩, noTerm, h1, no_shared D ns lo hD W'⟩
end Go.Proofs.Ytjdanfhbccpnpaa

