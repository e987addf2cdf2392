import Derived.Test.YtjdanfhbccpnpaaBcIs
import Derived.Test.YtjdanfhbccpnpaaBaO
/- What a base in memory is, and its functions' contracts, as the law BaseBack takes them. -/
namespace Go.Proofs.Ytjdanfhbccpnpaa
open Go.RowKit Go.Shelf Go.Maps

/-- A base that has nothing. -/
structure Bs0 (X : Nat → Prop) (W : World) (v : Value) (b me mf : Nat) : Prop where
  val : v = .pointer (some ⟨b, 0, none⟩)
  blk : BsBlk W b 0 me mf
  ent : PM 3 W me 0 (fun _ => none)
  fam : PM 74 W mf 0 (fun _ => none)
  ne : b ≠ me ∧ b ≠ mf ∧ me ≠ mf
  all : ∀ k, k = b ∨ k = me ∨ k = mf → X k
/-- A base that has one clause, of the id 1. -/
structure Bs1 (W : World) (v : Value) (h bd : List Nd) (b me mf fb km q eb : Nat) (pl : Int) (hx bx : TV) (ge gf : Lit → Option Addr) (D : Nat) : Prop where
  val : v = .pointer (some ⟨b, 0, none⟩)
  blk : BsBlk W b 1 me mf
  ent : PM 3 W me 1 ge
  fam : PM 74 W mf 1 gf
  fm : FmBlk W fb (some ⟨q, 0, none⟩) km
  tree : OneT eb 0 q W
  en : EnBlk W eb pl hx bx
  pls : -9223372036854775808 < pl ∧ pl ≤ 9223372036854775807
  small : D ≤ 1099511627775
  hh : HoldsS D anyB W hx.val h
  hb : HoldsS D anyB W bx.val bd
  oks : h.all okM = true ∧ bd.all okM = true
  g1 : ge (.int .i64 1) = some ⟨eb, 0, none⟩
  g2 : ∀ (s : ByteArray) (k : Nat), (∃ K N rest, h = (K, N, s.toList, k) :: rest) → gf (predL s k) = some ⟨fb, 0, none⟩
def BaseIs (X : Nat → Prop) (W : World) (v : Value) : List (Int × List Nd × List Nd) → Prop
  | [] => ∃ b me mf, Bs0 X W v b me mf
  | [(1, h, bd)] => ∃ (b me mf fb km q eb : Nat) (pl : Int) (hx bx : TV) (ge gf : Lit → Option Addr) (D : Nat), Bs1 W v h bd b me mf fb km q eb pl hx bx ge gf D
  | _ => False
theorem baseIs_below {X : Nat → Prop} {A B : World} {v : Value} {l : List (Int × List Nd × List Nd)} (h : BaseIs X A v l) (hb : Below A.heap.size A B) : BaseIs X B v l := by
  unfold BaseIs at h ⊢
  split at h
  · obtain ⟨b, me, mf, m⟩ := h
    exact ⟨b, me, mf, m.val, (hb.block b m.blk.lt).trans m.blk, m.ent.kept (hb.block me m.ent.lt), m.fam.kept (hb.block mf m.fam.lt), m.ne, m.all⟩
  · obtain ⟨b, me, mf, fb, km, q, eb, pl, hx, bx, ge, gf, D, m⟩ := h
    exact ⟨b, me, mf, fb, km, q, eb, pl, hx, bx, ge, gf, D, m.val, (hb.block b m.blk.lt).trans m.blk, m.ent.kept (hb.block me m.ent.lt), m.fam.kept (hb.block mf m.fam.lt), (hb.block fb m.fm.lt).trans m.fm, ⟨m.tree.1, (hb.block q (Array.getElem?_eq_some_iff.1 m.tree.2).1).trans m.tree.2⟩, (hb.block eb m.en.lt).trans m.en, m.pls, m.small, m.hh.below hb, m.hb.below hb, m.oks, m.g1, m.g2⟩
  · exact h
theorem predL_same {s s' : ByteArray} {n : Nat} (h : s.toList = s'.toList) : predL s n = predL s' n := by
  unfold predL
  rw [← ByteArray.toList_eq, ← ByteArray.toList_eq, h]
theorem rem_zero {n : Nat} {th tb : Tm (n + 1)} (h : (plainR th tb).1 = 0) : remE th tb = 0 := by
  rw [plain_rem] at h
  by_cases e : remE th tb = 0
  · exact e
  · rw [if_neg e] at h
    exact h
theorem base_add {n : Nat} (th tb : Tm (n + 1)) (first : Bool) (X : Nat → Prop) (v : Value) (W : World) (hI : BaseIs X W v []) (hTH : IsT W.heap.size W th) (hTB : IsT W.heap.size W tb) (hl : 2 * ((code th).length + (code tb).length + 1) ≤ 4194304) (hp : (plainR th tb).1 = 0) (hn : numC (code th)) (hn38 : n ≤ 274877906944 := by omega) :
    Calls Try.prog 8 #[v, clV th.tv tb.tv, .bool first] W fun e W' => ∃ X' : Nat → Prop, e = .returned (.tuple #[.int .i64 1, .int .i64 0]) ∧ BaseIs X' W' v [(1, code th, code tb)] ∧ (∀ b, X' b → X b ∨ W.heap.size ≤ b) ∧ GrB X W.heap.size W W' := by
  obtain ⟨b, me, mf, m⟩ := hI
  obtain rfl := m.val
  have hrem := rem_zero hp
  obtain ⟨okh, okb⟩ : okT th = true ∧ okT tb = true := by
    unfold remE at hrem
    split at hrem
    · assumption
    · cases hrem
  have fin : ∀ (pl : Int), -9223372036854775808 < pl ∧ pl ≤ 9223372036854775807 → ∀ (e : Ending) (W' : World), (e = .returned (.tuple #[.int .i64 (0 + 1), .int .i64 0]) ∧ ∃ (eb fb km q1 q2 : Nat) (hx bx : TV) (kl : Lit), AddIs b 0 me mf 0 0 (fun _ => none) (fun _ => none) pl (code th) (code tb) (n + 4) W.heap.size W' eb fb km q1 q2 hx bx kl ∧ GrB (fun k => k = b ∨ k = me ∨ k = mf) W.heap.size W W') →
      ∃ X' : Nat → Prop, e = .returned (.tuple #[.int .i64 1, .int .i64 0]) ∧ BaseIs X' W' (.pointer (some ⟨b, 0, none⟩)) [(1, code th, code tb)] ∧ (∀ b, X' b → X b ∨ W.heap.size ≤ b) ∧ GrB X W.heap.size W W' := by
    rintro pl hpl e W' ⟨rfl, eb, fb, km, q1, q2, hx, bx, kl, A, g⟩
    refine ⟨fun _ => False, rfl, ⟨b, me, mf, fb, km, q1, eb, pl, hx, bx, _, _, n + 4, ⟨rfl, A.base, A.ent, A.fam, A.fm, ⟨Nat.zero_le _, A.t1.2⟩, A.en, hpl, by omega, A.hh.mono (Nat.le_refl _) (fun _ _ => trivial), A.hb.mono (Nat.le_refl _) (fun _ _ => trivial), ⟨by rw [← okT_m]; exact okh, by rw [← okT_m]; exact okb⟩, ?_, fun s k hs => ?_⟩⟩, (fun _ h => h.elim), ⟨g.os, g.tape, g.output, g.size, fun k hk hx => g.block k hk (fun e => hx (m.all k e))⟩⟩
    · unfold updL
      exact if_pos rfl
    · obtain ⟨K, N, rest, hs⟩ := hs
      obtain ⟨t, e1, -, -, hc⟩ := A.hh (n + 4) (Nat.le_refl _) (by omega)
      have e2 := tv_inj e1
      have hck := code_kids t
      rw [hc, hs] at hck
      simp only [List.cons.injEq] at hck
      have hnd := congrArg (fun z : Nd => (z.2.2.1, z.2.2.2)) hck.1
      simp only [TV.nd, Prod.mk.injEq] at hnd
      have hpr : predL s k = predL hx.s hx.len := by
        rw [e2, ← hnd.2]
        exact predL_same hnd.1
      rw [hpr]
      unfold updL
      exact if_pos rfl
  cases first with
  | false => exact (add_last b me mf 0 0 0 _ _ th tb W m.blk m.ent m.fam (by decide) (by decide) (by omega) (by omega) m.ne hTH hTB hl hrem hn (fun _ _ => rfl)).mono fun e W' h => fin _ (by omega) e W' h
  | true => exact (add_first b me mf 0 0 0 _ _ th tb W m.blk m.ent m.fam (by decide) (by decide) (by omega) (by omega) m.ne hTH hTB hl hrem hn (fun _ _ => rfl)).mono fun e W' h => fin _ (by omega) e W' h
/-- base's functions, as they landed. -/
def baseOps : BaseOps where
  Needs := fun _ _ => True
  Is := BaseIs
  needs := fun _ _ => trivial
  is := baseIs_below
  make := fun t _ W _ _ hT hl hn => bmake_any t W hT hl hn
  plain := fun th tb _ W _ _ hTH hTB hl hn => bplain_any th tb W hTH hTB hl hn
  new := fun _ W _ _ => (new_any W).mono fun e W' h => by
    obtain ⟨rfl, h2, h3, h4, h5, h6⟩ := h
    exact ⟨_, fun k => k = W.heap.size + 2 ∨ k = W.heap.size ∨ k = W.heap.size + 1, rfl, ⟨W.heap.size + 2, W.heap.size, W.heap.size + 1, rfl, h2, h3, h4, by omega, fun k hk => hk⟩, (fun b hb => by omega), h5⟩
  add := fun th tb first _ X v W _ _ hI hTH hTB hl hp hn hn38 => base_add th tb first X v W hI hTH hTB hl hp hn hn38
  get := fun h b _ X v W _ _ hI => by
    obtain ⟨b', me, mf, fb, km, q, eb, pl, hx, bx, ge, gf, D, m⟩ := hI
    obtain rfl := m.val
    refine (get_any b' me mf eb 1 pl 1 1 ge W m.blk m.ent (by omega) (by omega) m.g1 m.en m.hh m.hb m.oks.1 m.oks.2 (by have := m.small; omega)).mono fun e W' h => ⟨?_, h.2⟩
    obtain ⟨x', y', h1, h2, h3⟩ := h.1
    exact ⟨⟨D + 1, by have := m.small; omega⟩, x', y', h1, h2.mono (Nat.le_refl _) fun _ h => .inr h, h3.mono (Nat.le_refl _) fun _ h => .inr h⟩
  look := fun _ X v W _ _ hI => by
    obtain ⟨b', me, mf, fb, km, q, eb, pl, hx, bx, ge, gf, D, m⟩ := hI
    obtain rfl := m.val
    refine (look_one b' me mf fb km eb q 1 pl 0 1 gf pK W m.blk m.fam m.fm m.tree m.en.cs.1 m.pls.1 m.pls.2 (pK_isT W) (by decide +kernel) rfl rfl (m.g2 ⟨#[112]⟩ 0 ⟨3, 0, [], by decide +kernel⟩)).mono fun e W' h => ?_
    obtain ⟨⟨a, cap, h1⟩, h2⟩ := h
    exact ⟨a, cap, h1, h2⟩
end Go.Proofs.Ytjdanfhbccpnpaa

