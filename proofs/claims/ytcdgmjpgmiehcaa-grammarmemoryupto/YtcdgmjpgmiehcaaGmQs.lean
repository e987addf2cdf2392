import Derived.Test.YtcdgmjpgmiehcaaGmNs
import Derived.Test.YtcdgmjpgmiehcaaOpGs
import Derived.Test.YtcdgmjpgmiehcaaUs
import Derived.Laws.OwnMore
import Derived.Test.YtcdgmjpgmiehcaaGmL
import Derived.Test.YtcdgmjpgmiehcaaCs
import Derived.Maps.RangeWalk
import Derived.Maps.OwnSet
import Derived.Maps.Views
/- hornref.Swap of any term, with any row. (Written by wip/grswapgen.py off Sw.) -/
namespace Go.Proofs.Ytcdgmjpgmiehcaa
open Go.RowKit Go.Shelf Go.Maps

def swN (f : Int) (ms : List Int) (N : Int) : List Nd := [varNd (swapR ms f N)]
/-- Variables have no Args and no name; no part has more than fifty Args. -/
def okL (x : TV) : Prop := (x.k = 1 → x.len = 0 ∧ x.s.toList = []) ∧ x.len ≤ 50
def okLT {n : Nat} (t : Tm n) : Bool := (parts t).all fun x => (!(x.k == 1) || (x.len == 0 && x.s.toList == [])) && decide (x.len ≤ 50)
theorem okL_kids {n : Nat} {x : TV} {kids : List (Tm n)} (h : okLT (n := n + 1) ((x, kids) : TV × List (Tm n)) = true) : okL x ∧ ∀ u ∈ kids, okLT u = true := by
  have h' : (x :: kids.flatMap parts).all (fun x => (!(x.k == 1) || (x.len == 0 && x.s.toList == [])) && decide (x.len ≤ 50)) = true := h
  rw [List.all_cons, Bool.and_eq_true] at h'
  refine ⟨?_, fun u hu => ?_⟩
  · have h1 := h'.1
    simp only [Bool.and_eq_true, Bool.or_eq_true, Bool.not_eq_true', beq_eq_false_iff_ne, beq_iff_eq, decide_eq_true_eq] at h1
    exact ⟨fun e => h1.1.resolve_left (fun h => h e), h1.2⟩
  · unfold okLT
    rw [List.all_eq_true] at h' ⊢
    exact fun y hy => h'.2 y (List.mem_flatMap.2 ⟨u, hu, hy⟩)
end Go.Proofs.Ytcdgmjpgmiehcaa

/- hornref.Behind; hornref.Vars of terms in a row. -/
namespace Go.Proofs.Ytcdgmjpgmiehcaa
open Go.RowKit Go.Shelf Go.Maps

/-- 1 more than the greatest of variables. -/
def behC (l : List Int) : Int := l.foldl (fun n N => max n (N + 1)) 0
theorem beh_take {l : List Int} {j : Nat} {N : Int} (h : l[j]? = some N) : behC (l.take (j + 1)) = max (behC (l.take j)) (N + 1) := by
  unfold behC
  rw [List.take_add_one, h, List.foldl_append]
  rfl
theorem beh_lt : ∀ (l : List Int) (N : Int), N ∈ l → N < behC l := by
  intro l
  unfold behC
  have key : ∀ (l : List Int) (a : Int), a ≤ l.foldl (fun n N => max n (N + 1)) a ∧ ∀ N ∈ l, N < l.foldl (fun n N => max n (N + 1)) a := by
    intro l
    induction l with
    | nil => intro a; exact ⟨Int.le_refl _, fun N h => by cases h⟩
    | cons b l ih =>
      intro a
      obtain ⟨h1, h2⟩ := ih (max a (b + 1))
      refine ⟨by rw [List.foldl_cons]; omega, fun N hN => ?_⟩
      rw [List.foldl_cons]
      rcases List.mem_cons.1 hN with rfl | hN
      · omega
      · exact h2 N hN
  exact (key l 0).2
theorem beh_le {l : List Int} {a : Int} (ha : 0 ≤ a) (h : ∀ N ∈ l, N + 1 ≤ a) : 0 ≤ behC l ∧ behC l ≤ a := by
  unfold behC
  have key : ∀ (l : List Int) (b : Int), 0 ≤ b → b ≤ a → (∀ N ∈ l, N + 1 ≤ a) → 0 ≤ l.foldl (fun n N => max n (N + 1)) b ∧ l.foldl (fun n N => max n (N + 1)) b ≤ a := by
    intro l
    induction l with
    | nil => intro b h0 h1 _; exact ⟨h0, h1⟩
    | cons c l ih =>
      intro b h0 h1 h2
      rw [List.foldl_cons]
      exact ih _ (by omega) (by have := h2 c (by simp); omega) (fun N hN => h2 N (by simp [hN]))
  exact key l 0 (Int.le_refl _) ha h
end Go.Proofs.Ytcdgmjpgmiehcaa

/- hornref.vars with more room; hornref.Vars of a row. (Written by wip/grvarsgen.py off Vs.) -/
namespace Go.Proofs.Ytcdgmjpgmiehcaa
open Go.RowKit Go.Shelf Go.Maps

theorem okLT_of {n : Nat} {t : Tm n} (h : okT t = true) : okLT t = true := by
  unfold okT at h
  unfold okLT
  rw [List.all_eq_true] at h ⊢
  intro x hx
  have hx' : wmB x.k x.N x.s x.len = true := h x hx
  have h2 : x.len ≤ 50 := by rcases wm_cases hx' with ⟨_, _, _, _, h⟩ | ⟨_, h⟩ | ⟨_, _, _, h⟩ <;> omega
  by_cases hk : x.k = 1
  · rcases wm_cases hx' with ⟨_, _, _, hs, hl⟩ | ⟨h, _⟩ | ⟨h, _⟩
    · simp [hs, hl]
    · omega
    · omega
  · simp [hk, h2]
theorem vars_two (acc : List Int) (c d : List Nd) : varsC acc (c ++ d) = varsC (varsC acc c) d := by
  show stepsN stpN acc (c ++ d) = stepsN stpN (stepsN stpN acc c) d
  unfold stepsN
  rw [List.foldl_append]
end Go.Proofs.Ytcdgmjpgmiehcaa

/- hornref.Rename with more room. (Written by wip/grrengen.py off Sw.) -/
namespace Go.Proofs.Ytcdgmjpgmiehcaa
open Go.RowKit Go.Shelf Go.Maps

theorem swap_canon (f : Int) (c : List Nd) : c.flatMap (subN (swN f (varsC [] c))) = canon f c := by
  unfold canon
  refine sub_congr_on fun N hN => ?_
  unfold swN swapR renN
  rw [if_pos (steps_all N hN)]
end Go.Proofs.Ytcdgmjpgmiehcaa

/- hornref.Entries: a list's entries, in a row. -/
namespace Go.Proofs.Ytcdgmjpgmiehcaa
open Go.RowKit Go.Shelf Go.Maps

/-- A list's entries: their cells and codes. -/
def ents : {n : Nat} → Tm n → List (TV × List Nd)
  | 0, t => Empty.elim t
  | _ + 1, t => if isB t.tv [46] 2 = true then (match t.kids with | [u, v] => (u.tv, code u) :: ents v | _ => []) else []
/-- Why a term is no list: nothing, if it is. -/
def whyS : {n : Nat} → Tm n → ByteArray
  | 0, t => Empty.elim t
  | _ + 1, t => if isB t.tv [46] 2 = true then (match t.kids with | [_, v] => whyS v | _ => ⟨#[]⟩) else if t.tv.k = 1 then ⟨#[117, 110, 98, 111, 117, 110, 100]⟩ else if isB t.tv [91, 93] 0 = true then ⟨#[]⟩ else ⟨#[119, 114, 111, 110, 103, 95, 107, 105, 110, 100]⟩
theorem ents_succ {n : Nat} (x : TV) (kids : List (Tm n)) : ents (n := n + 1) ((x, kids) : TV × List (Tm n)) = if isB x [46] 2 = true then (match kids with | [u, v] => (u.tv, code u) :: ents v | _ => []) else [] := rfl
theorem whyS_succ {n : Nat} (x : TV) (kids : List (Tm n)) : whyS (n := n + 1) ((x, kids) : TV × List (Tm n)) = if isB x [46] 2 = true then (match kids with | [_, v] => whyS v | _ => ⟨#[]⟩) else if x.k = 1 then ⟨#[117, 110, 98, 111, 117, 110, 100]⟩ else if isB x [91, 93] 0 = true then ⟨#[]⟩ else ⟨#[119, 114, 111, 110, 103, 95, 107, 105, 110, 100]⟩ := rfl
theorem ents_len : ∀ {n : Nat} (t : Tm n), (ents t).length ≤ n := by
  intro n
  induction n with
  | zero => intro t; exact Empty.elim t
  | succ n ih =>
    intro t
    obtain ⟨x, kids⟩ := t
    rw [ents_succ]
    by_cases h : isB x [46] 2 = true
    · rw [if_pos h]
      match kids with
      | [] => simp
      | [_] => simp
      | [u, v] => have := ih v; simp only [List.length_cons]; omega
      | _ :: _ :: _ :: _ => simp
    · rw [if_neg h]; simp
/-- One row behind another. -/
theorem StkT.app {B B' : Nat} {W : World} {v v2 : Value} {S E : List TV} (hs : StkT B W v S) (hx : StkT B' W v2 E) (hl : S.length + E.length ≤ 2199023255554) (hB : B ≤ W.heap.size) :
    ∃ v' X, (Builtin.append_ #[22, 22] 22 #[v, v2]).run Try.prog W = .ok v' X ∧ StkT B X v' (S ++ E) ∧ W.grownBy X v.ownBlock := by
  obtain ⟨i0, hi, hz0, hz1, hz2⟩ := info_parts Try.infoT4
  rcases hx.2.2 with ⟨h0, h1⟩ | ⟨g, cap, cur, h0, h1⟩
  · have hE : E = [] := by simpa using h1
    subst h0 hE
    have hr := run_append_owned_none (P := Try.prog) W B 22 22 24 i0 4 Try.underlying22 hi v _ _ hs.2
    exact ⟨v, W, hr, by simpa using hs, ⟨rfl, rfl, rfl, Nat.le_refl _, fun _ _ _ => rfl⟩⟩
  · have h2 := hx.2
    rw [h0] at h2 ⊢
    obtain ⟨v', X, r1, r2, r3, _⟩ := run_append_own (P := Try.prog) W B 22 22 24 i0 _ 4 56 Try.underlying22 hi hz0 hz1 hz2 rfl (by omega) v _ _ hs.2 ⟨g, 0, none⟩ (E.map trow).length cap (E.map trow).flatten h2.1 (fun j u hu => by
      have hj : j < (E.map trow).flatten.length := (List.getElem?_eq_some_iff.1 hu).1
      rw [h2.1] at hj
      have := World.ownsRow.cellAt h2 j hj
      cases j with
      | zero => simpa [Addr.add] using this.trans hu
      | succ j => simpa [Addr.add] using this.trans hu) (fun u hu => by
      obtain ⟨r, hr, hu⟩ := List.mem_flatten.1 hu
      obtain ⟨x, _, rfl⟩ := List.mem_map.1 hr
      exact trow_ok x u hu) (by unfold maxLen; simp only [List.length_map]; omega) (by simp only [List.length_map]; omega) hB
    refine ⟨v', X, r1, ⟨fun r hr => ?_, ?_⟩, r3⟩
    · rw [List.map_append] at hr
      rcases List.mem_append.1 hr with hr | hr
      · exact hs.1 r hr
      · exact hx.1 r hr
    · rw [List.map_append, List.length_append, List.flatten_append]
      exact r2
end Go.Proofs.Ytcdgmjpgmiehcaa

/- hornref.List: entries and a tail as a list. -/
namespace Go.Proofs.Ytcdgmjpgmiehcaa
open Go.RowKit Go.Shelf Go.Maps

theorem kids_S {S : Nat → Prop} {D g : Nat} {W : World} {M : Nat} (hM : D ≤ M) (hl : M ≤ 2199023255552) : ∀ (xs : List TV) (cs : List (List Nd)) (i : Nat), cs.length = xs.length → (∀ j x c, xs[j]? = some x → cs[j]? = some c → cellsAt W g ((i + j) * 4) x ∧ HoldsS D S W x.val c) →
    ∃ ks : List (Tm M), ks.length = xs.length ∧ (∀ j u, ks[j]? = some u → cellsAt W g ((i + j) * 4) u.tv ∧ IsT W.heap.size W u ∧ BlkT S u) ∧ ks.flatMap code = cs.flatten
  | [], [], _, _, _ => ⟨[], rfl, fun j u h => by simp at h, rfl⟩
  | [], _ :: _, _, h, _ => by simp at h
  | _ :: _, [], _, h, _ => by simp at h
  | x :: xs, c :: cs, i, hlen, h => by
    obtain ⟨h1, h2⟩ := h 0 x c rfl rfl
    obtain ⟨t, e1, e2, e3, e4⟩ := h2 M hM hl
    obtain rfl := tv_inj e1
    obtain ⟨ks, k1, k2, k3⟩ := kids_S hM hl xs cs (i + 1) (by simpa using hlen) (fun j y d hy hd => by
      have := h (j + 1) y d (by simpa using hy) (by simpa using hd)
      rw [show i + (j + 1) = i + 1 + j by omega] at this
      exact this)
    refine ⟨t :: ks, by simp [k1], fun j u hu => ?_, by simp [e4, k3]⟩
    cases j with
    | zero =>
      simp at hu
      subst hu
      exact ⟨h1, e2, e3⟩
    | succ j =>
      have := k2 j u (by simpa using hu)
      rw [show i + 1 + j = i + (j + 1) by omega] at this
      exact this
/-- A compound whose Args stand in a row. -/
theorem comp_S {S : Nat → Prop} {D g cap : Nat} {W : World} {s : ByteArray} {xs : List TV} {cs : List (List Nd)} (hs : s.size ≤ 9223372036854775807) (hl : xs.length ≤ 9223372036854775807) (hcl : cs.length = xs.length) (hg : g < W.heap.size) (hP : S g) (hcap : xs.length ≤ cap)
    (hx : ∀ j x c, xs[j]? = some x → cs[j]? = some c → cellsAt W g (j * 4) x ∧ HoldsS D S W x.val c) : HoldsS (D + 1) S W (compV s (some ⟨g, 0, none⟩) xs.length cap).val ((4, 0, s.toList, xs.length) :: cs.flatten) := fun m hm hlim => by
  obtain ⟨M, rfl⟩ : ∃ M, m = M + 1 := ⟨m - 1, by omega⟩
  obtain ⟨ks, k1, k2, k3⟩ := kids_S (S := S) (D := D) (g := g) (W := W) (M := M) (by omega) (by omega) xs cs 0 hcl (fun j x c h1 h2 => by rw [Nat.zero_add]; exact hx j x c h1 h2)
  refine ⟨((compV s (some ⟨g, 0, none⟩) xs.length cap, ks) : TV × List (Tm M)), rfl, ⟨k1.symm, ⟨hl, hcap, hlim⟩, hs, .inr ⟨g, 0, rfl, hg, fun j u hu => ?_⟩⟩, ⟨.inr ⟨g, 0, rfl, hP⟩, fun u hu => ?_⟩, ?_⟩
  · obtain ⟨q1, q2, _⟩ := k2 j u hu
    rw [Nat.zero_add] at q1 ⊢
    exact ⟨q1, q2⟩
  · obtain ⟨j, hj⟩ := List.mem_iff_getElem?.1 hu
    exact (k2 j u hj).2.2
  · rw [code_succ, k3]; rfl
/-- The code of a list of entries with a tail. -/
def listC (es : List (TV × List Nd)) (r : List Nd) : List Nd := es.foldr (fun e c => (4, 0, [46], 2) :: (e.2 ++ c)) r
theorem end_list : ∀ {n : Nat} (t : Tm n), Wl t → okT t = true → ∀ r, endC t r = listC (ents t) r := by
  intro n
  induction n with
  | zero => intro t; exact Empty.elim t
  | succ n ih =>
    intro t hw ok r
    obtain ⟨x, kids⟩ := t
    have hk := ok_kids ok
    rw [endC_succ, ents_succ]
    cases hx : isB x [46] 2 with
    | false => simp [listC]
    | true =>
      have hl : x.len = 2 := by have := isB_len hx; omega
      obtain ⟨a, b, rfl⟩ := two_kids hw hl
      have hwk : ∀ z ∈ [a, b], Wl z := hw.2
      have e : x.nd = (4, 0, [46], 2) := by
        rcases wm_cases hk.1 with ⟨_, _, _, _, h⟩ | ⟨_, h⟩ | ⟨h1, h2, _⟩
        · omega
        · omega
        · unfold TV.nd; rw [h1, h2, isB_name hx, hl]
      have hi := ih b (hwk b (by simp)) (hk.2 b (by simp)) r
      simp only [if_true]
      rw [e, hi]
      rfl
def anyK (_ : Nat) : Prop := True
end Go.Proofs.Ytcdgmjpgmiehcaa

/- In which order errors are looked for makes no difference; why a term is no list. -/
namespace Go.Proofs.Ytcdgmjpgmiehcaa
open Go.RowKit Go.Shelf Go.Maps

theorem res_far {s : List UInt8} {n : Int} (h : 8 < n) : resB s n = false := by
  unfold resB
  by_cases hc : (s == [99, 97, 108, 108]) = true
  · rw [if_pos hc]; simp; omega
  · rw [if_neg hc, if_neg (by omega), if_neg (by omega), if_neg (by omega), if_neg (by omega)]
/-- hornref asks how many Args there are first. -/
theorem ext_order (x : TV) : extE x = if 50 < x.len + 2 then 9 else if resB x.s.toList (x.len + 2) = true then 7 else 0 := by
  unfold extE
  by_cases h : 50 < x.len + 2
  · simp [h, res_far (s := x.s.toList) (n := (x.len : Int) + 2) (by omega)]
  · simp [h]
theorem why_list : ∀ {n : Nat} (t : Tm n), Wl t → (listT t = true → whyS t = ⟨#[]⟩) ∧ (listT t = false → whyS t = ⟨#[117, 110, 98, 111, 117, 110, 100]⟩ ∨ whyS t = ⟨#[119, 114, 111, 110, 103, 95, 107, 105, 110, 100]⟩) := by
  intro n
  induction n with
  | zero => intro t; exact Empty.elim t
  | succ n ih =>
    intro t hw
    obtain ⟨x, kids⟩ := t
    rw [listT_succ, whyS_succ]
    cases hx : isB x [46] 2 with
    | true =>
      obtain ⟨a, b, rfl⟩ := two_kids hw (by have := isB_len hx; omega)
      have hwk : ∀ z ∈ [a, b], Wl z := hw.2
      simpa using ih b (hwk b (by simp))
    | false =>
      simp only [Bool.false_eq_true, if_false]
      by_cases k1 : x.k = 1
      · rw [if_pos k1, isB_one k1]
        exact ⟨fun h => absurd h (by simp), fun _ => .inl rfl⟩
      · rw [if_neg k1]
        cases hy : isB x [91, 93] 0 with
        | true => exact ⟨fun _ => by simp, fun h => absurd h (by simp)⟩
        | false => exact ⟨fun h => absurd h (by simp), fun _ => .inr (by simp)⟩
end Go.Proofs.Ytcdgmjpgmiehcaa

/- The contract of term.parts, where all parts of the term are of a kind. -/
namespace Go.Proofs.Ytcdgmjpgmiehcaa
open Go.RowKit Go.Shelf

/-- The parts of a term that all are of a kind, handed over as such. -/
theorem parts_stopsP (Pt : TV → Prop) (n : Nat) (Bt n₀ n₁ : Nat) {d : Nat} (t : Tm d) (w : World)
    (hPt : ∀ x ∈ parts t, Pt x) (hc : BoxT w Bt t.tv) (hT : IsT n₀ w t) (hn₀ : n₀ ≤ w.heap.size) (hn₁ : n₁ ≤ w.heap.size) :
    SeqC 22 Fence.wide n Try.prog 54 #[.pointer (some ⟨Bt, 0, none⟩)] (fun x : { x : TV // Pt x } => #[TV.val x.1]) (Kp n₀ n₁) (fun ys => ys.map Subtype.val = parts t) (fun pre => pre.map Subtype.val <+: parts t) (parts t).length w := fun l J Jx W hW hJ hJx hY h0 => by
  have h := parts1_in n l Bt n₀ n₁ _ t (fun ys W => ∃ zs : List { x : TV // Pt x }, zs.map Subtype.val = ys ∧ J zs W) (fun ys W => ∃ zs : List { x : TV // Pt x }, zs.map Subtype.val = ys ∧ Jx zs W) (fun s A B row hs hg hr => by obtain ⟨zs, e, hz⟩ := hs; exact ⟨zs, e, hJ zs A B row hz hg hr⟩)
    (fun pre x W hx hj hl => by
      obtain ⟨zs, rfl, hz⟩ := hj
      refine (hY zs ⟨x, hPt x hx⟩ W hz (by simpa using hl)).mono fun e W' h => ?_
      rcases h with ⟨h1, h2, h3⟩ | ⟨h1, h2⟩
      · exact .inl ⟨h1, ⟨zs ++ [⟨x, hPt x hx⟩], by simp, h2⟩, h3⟩
      · exact .inr ⟨h1, ⟨zs ++ [⟨x, hPt x hx⟩], by simp, h2⟩⟩)
    W ((hW.block Bt hc.lt).trans hc) (hT.below (hW.mono hn₀)) (Nat.le_trans hn₀ hW.size) (Nat.le_trans hn₁ hW.size) (Nat.le_refl _) ⟨[], rfl, h0⟩
  refine h.mono fun e W' h => ?_
  obtain ⟨h1, h2⟩ := h
  refine ⟨h1, ?_⟩
  rcases h2 with ⟨ys, rfl, zs, e, hz⟩ | ⟨pre, hp, zs, e, hz⟩
  · exact .inl ⟨zs, e, hz⟩
  · exact .inr ⟨zs, by show zs.map Subtype.val <+: parts t; rw [e]; exact hp, hz⟩
end Go.Proofs.Ytcdgmjpgmiehcaa

/- Keys that are numbers; what a world keeps but for a map's block. -/
namespace Go.Proofs.Ytcdgmjpgmiehcaa
open Go.RowKit Go.Shelf Go.Maps

theorem Try.keyed2 : Keyed Try.prog 2 := int_keyed Try.underlying2
theorem key_i64 {N : Int} (h0 : 0 ≤ N) (h1 : N ≤ 1099511627776) : keyOf Try.prog 2 (.int .i64 N) = some (.int .i64 N) :=
  keyOf_int_mk Try.underlying2 (by simp [Lit.wf, IntKind.min, IntKind.max, IntKind.signed, IntKind.bits]; omega)

theorem nodup_le : ∀ (M : Nat) (l : List Nat), l.Nodup → (∀ x ∈ l, x < M) → l.length ≤ M
  | 0, l, _, h => by
    cases l with
    | nil => simp
    | cons a l => have := h a (by simp); omega
  | M + 1, l, hn, h => by
    by_cases hm : M ∈ l
    · have h1 := nodup_le M (l.erase M) (hn.erase _) (fun x hx => by
        have h2 := (List.Nodup.mem_erase_iff hn).1 hx
        have h3 := h x h2.2
        have h4 := h2.1
        omega)
      rw [List.length_erase_of_mem hm] at h1
      omega
    · have h1 := nodup_le M l hn (fun x hx => by
        have h3 := h x hx
        by_cases e : x = M
        · subst e; exact (hm hx).elim
        · omega)
      omega
/-- All but block b is as it was: so what lies below b is. -/
theorem grown_below {A B : World} {b n₀ : Nat} (h : A.grownBy B (some b)) (hb : n₀ ≤ b) (hs : n₀ ≤ A.heap.size) : Below n₀ A B :=
  ⟨h.os, h.tape, h.output, h.size, fun k hk => h.block k (by omega) (by simp; omega)⟩
theorem below_grown {A B : World} (b : Nat) (h : Below A.heap.size A B) : A.grownBy B (some b) := ⟨h.os, h.tape, h.output, h.size, fun k hk _ => h.block k hk⟩
theorem grown_trans {A B C : World} {b : Nat} (h : A.grownBy B (some b)) (k : B.grownBy C (some b)) : A.grownBy C (some b) :=
  ⟨k.os.trans h.os, k.tape.trans h.tape, k.output.trans h.output, Nat.le_trans h.size k.size, fun i hi hne => (k.block i (Nat.lt_of_lt_of_le hi h.size) hne).trans (h.block i hi hne)⟩
theorem gcell {A B : World} {b : Nat} (h : A.grownBy B (some b)) : ∀ k o, k < A.heap.size → k ≠ b → B.cell? ⟨k, o, none⟩ = A.cell? ⟨k, o, none⟩ := fun k o hk hne => World.cell?_of_block (a := ⟨k, o, none⟩) (h.block k hk (by simp; exact hne))
theorem isT_grown {A B : World} {b n₀ : Nat} (h : A.grownBy B (some b)) (hb : n₀ ≤ b) (hs : n₀ ≤ A.heap.size) {n : Nat} {t : Tm n} (hT : IsT n₀ A t) : IsT n₀ B t := hT.below (grown_below h hb hs)
end Go.Proofs.Ytcdgmjpgmiehcaa

/- The contracts of number's closure and of term.number: variables get new numbers in the order of their coming. -/
namespace Go.Proofs.Ytcdgmjpgmiehcaa
open Go.RowKit Go.Shelf Go.Maps

/-- The map of numbers given, the box that holds it, the counter. -/
structure NumI (f : Int) (mb bb nb : Nat) (c : List Int) (W : World) : Prop where
  nodup : c.Nodup
  key : ∀ N ∈ c, 0 ≤ N ∧ N ≤ 1099511627776
  box : W.heap[bb]? = some (.cells #[.map (some mb)] 73 (0, 0))
  next : W.heap[nb]? = some (.cells #[.int .i64 (f + (c.length : Nat))] 2 (0, 0))
  map : ∃ E : DataW Unit, W.ownsMap Try.prog 2 (plainElem Try.prog 2) mb c.length E ∧ (∀ N, Maps.has E (.int .i64 N) = true ↔ N ∈ c) ∧ ∀ N ∈ c, ∀ z, E.atKey (.int .i64 N) z = .lit (.int .i64 (f + (c.idxOf N : Nat)))
theorem numI_keep {f : Int} {mb bb nb lo : Nat} (h1 : mb < lo) (h2 : bb < lo) (h3 : nb < lo) {c : List Int} {W W' : World} (h : NumI f mb bb nb c W) (hb : Below lo W W') : NumI f mb bb nb c W' := by
  obtain ⟨E, ⟨es, clock, e1, e2⟩, e3⟩ := h.map
  exact ⟨h.nodup, h.key, (hb.block _ h2).trans h.box, (hb.block _ h3).trans h.next, E, ⟨es, clock, (hb.block _ h1).trans e1, e2⟩, e3⟩
theorem nodup_range {c : List Int} (hn : c.Nodup) (hk : ∀ N ∈ c, 0 ≤ N ∧ N ≤ 1099511627776) : c.length ≤ 1099511627777 := by
  have h1 := nodup_le 1099511627777 (c.map Int.toNat) (by
    rw [List.Nodup, List.pairwise_map]
    exact List.Pairwise.imp_of_mem (fun {p q} hp hq hne e => hne (by have := hk p hp; have := hk q hq; omega)) hn) (fun x hx => by
    obtain ⟨q, hq, rfl⟩ := List.mem_map.1 hx
    have := hk q hq
    omega)
  simpa using h1
theorem stately_num {f : Int} {mb bb nb n₀ lo : Nat} (h0 : n₀ ≤ lo) (h1 : n₀ ≤ mb ∧ mb < lo) (h2 : bb < lo) (h3 : n₀ ≤ nb ∧ nb < lo) : Stately (NumI f mb bb nb) (fun k => k = mb ∨ k = nb) n₀ lo stpN (renN f) where
  low := h0
  blocks := by rintro k (rfl | rfl) <;> assumption
  keep := fun s W W' h _ hb => numI_keep h1.2 h2 h3.2 h hb
  stay := fun s N l => by
    obtain ⟨d, hd⟩ := stepsN_ext l (stpN s N)
    unfold renN
    rw [hd, idxOf_ext (stpN_mem s N)]
theorem Try.zero2 (w : World) : (zeroValue 2).run Try.prog w = .ok (.int .i64 0) w := by kernel_rfl
theorem wf_i64 {N : Int} (h0 : 0 ≤ N) (h1 : N ≤ 9223372036854775807) : (Lit.int .i64 N).wf = true := by simp [Lit.wf, IntKind.min, IntKind.max, IntKind.signed, IntKind.bits]; omega
theorem numI_look {f : Int} {mb bb nb : Nat} {c : List Int} {W : World} (h : NumI f mb bb nb c W) {N : Int} (h0 : 0 ≤ N) (h1 : N ≤ 1099511627776) (hN : N ∈ c) :
    (Instr.lookup 73 (.map (some mb)) (.int .i64 N) true).run Try.prog W = .ok (.tuple #[.int .i64 (f + (c.idxOf N : Nat)), .bool true]) W := by
  obtain ⟨E, e1, e2, e3⟩ := h.map
  obtain ⟨v, ps, hrun, hv⟩ := e1.look_ok Try.keyed2 Try.underlying73 (Try.zero2 W) (plainElem_int Try.underlying2 (by decide)) (key_i64 h0 h1)
  rw [(e2 N).2 hN] at hrun
  rw [e3 N hN] at hv
  obtain ⟨y, rfl, hy, _⟩ := plainElem_int_inv Try.underlying2 hv
  simp at hy
  rw [hrun, hy.1]
theorem numI_miss {f : Int} {mb bb nb : Nat} {c : List Int} {W : World} (h : NumI f mb bb nb c W) {N : Int} (h0 : 0 ≤ N) (h1 : N ≤ 1099511627776) (hN : N ∉ c) :
    (Instr.lookup 73 (.map (some mb)) (.int .i64 N) true).run Try.prog W = .ok (.tuple #[.int .i64 0, .bool false]) W := by
  obtain ⟨E, e1, e2, e3⟩ := h.map
  obtain ⟨v, ps, hrun, hv⟩ := e1.look_ok Try.keyed2 Try.underlying73 (Try.zero2 W) (plainElem_int Try.underlying2 (by decide)) (key_i64 h0 h1)
  have hf : Maps.has E (.int .i64 N) = false := by
    cases hh : Maps.has E (.int .i64 N) with
    | false => rfl
    | true => exact (hN ((e2 N).1 hh)).elim
  rw [hf] at hrun
  rw [atKey_of_not_has hf] at hv
  obtain ⟨y, rfl, hy, _⟩ := plainElem_int_inv Try.underlying2 hv
  simp at hy
  rw [hrun, hy.1]
theorem one_cell {W : World} {b : Nat} {v : Value} {T : TypeId} (h : W.heap[b]? = some (.cells #[v] T (0, 0))) : W.cell? ⟨b, 0, none⟩ = some v ∧ W.frozen? ⟨b, 0, none⟩ = false := by
  constructor <;> simp [World.cell?, World.frozen?, h]
theorem set_one {W : World} {b : Nat} {v v' : Value} {T : TypeId} (h : W.heap[b]? = some (.cells #[v] T (0, 0))) : (W.setCell ⟨b, 0, none⟩ v').heap[b]? = some (.cells #[v'] T (0, 0)) := by
  obtain ⟨hlt, hk⟩ := Array.getElem?_eq_some_iff.1 h
  show (W.heap.modify b _)[b]? = _
  rw [Array.getElem?_eq_getElem (by rw [Array.size_modify]; exact hlt), Array.getElem_modify_self, hk]
  rfl
/-- A variable that is new: the map, and the counter behind it. -/
theorem numI_put {f : Int} {mb bb nb : Nat} {c : List Int} {W : World} (h : NumI f mb bb nb c W) (hf0 : 0 ≤ f) (hf1 : f ≤ 1099511627776) (hne : mb ≠ bb ∧ mb ≠ nb ∧ bb ≠ nb) {N : Int} (h0 : 0 ≤ N) (h1 : N ≤ 1099511627776) (hN : N ∉ c) :
    ∃ W', (Instr.mapUpdate 73 (.map (some mb)) (.int .i64 N) (.int .i64 (f + (c.length : Nat)))).run Try.prog W = .ok () W' ∧ W.grownBy W' (some mb) ∧ W'.heap[nb]? = some (.cells #[.int .i64 (f + (c.length : Nat))] 2 (0, 0)) ∧ NumI f mb bb nb (c ++ [N]) (W'.setCell ⟨nb, 0, none⟩ (.int .i64 (f + (c.length : Nat) + 1))) := by
  have hle := nodup_range h.nodup h.key
  obtain ⟨E, e1, e2, e3⟩ := h.map
  have hm := e1.isMap
  obtain ⟨W', hrun, f1, f2⟩ := e1.update Try.keyed2 Try.underlying73 (by unfold maxLen; omega) (key_i64 h0 h1) (plainElem_int Try.underlying2 (wf_i64 (N := f + (c.length : Nat)) (by omega) (by omega)))
  have hkl : WideAt.IsKeyLit (.int .i64 N) := Try.keyed2.key (key_i64 h0 h1)
  have hlt : ∀ {k : Nat} {o : Obj}, W.heap[k]? = some o → k < W.heap.size := fun hk => (Array.getElem?_eq_some_iff.1 hk).1
  have hnx : W'.heap[nb]? = some (.cells #[.int .i64 (f + (c.length : Nat))] 2 (0, 0)) := (f2.block nb (hlt h.next) (by simpa using hne.2.1.symm)).trans h.next
  have hbx : W'.heap[bb]? = some (.cells #[.map (some mb)] 73 (0, 0)) := (f2.block bb (hlt h.box) (by simpa using hne.1.symm)).trans h.box
  refine ⟨W', hrun, f2, hnx, ⟨?_, ?_, ?_, ?_, _, f1.setCell (a := ⟨nb, 0, none⟩) hne.2.1 _ |>.mono (by simp), ?_, ?_⟩⟩
  · rw [List.nodup_append]
    exact ⟨h.nodup, by simp, fun a ha b hb => by simp at hb; subst hb; exact fun e => hN (e ▸ ha)⟩
  · intro M hM
    rcases List.mem_append.1 hM with hM | hM
    · exact h.key M hM
    · simp at hM; subst hM; exact ⟨h0, h1⟩
  · rw [Below.heap_setCell _ _ _ _ (by simpa using hne.2.2)]; exact hbx
  · rw [set_one hnx]
    have : f + ((c ++ [N]).length : Nat) = f + (c.length : Nat) + 1 := by simp; omega
    rw [this]
  · intro M
    by_cases e : M = N
    · subst e
      rw [has_put_same hm hkl]
      simp
    · rw [has_put_other (by simpa using e), e2 M]
      simp [e]
  · intro M hM z
    by_cases e : M = N
    · subst e
      rw [atKey_put_same hm hkl]
      have : (c ++ [M]).idxOf M = c.length := by rw [List.idxOf_append, if_neg hN]; simp
      rw [this]
    · have hMc : M ∈ c := by simpa [e] using hM
      rw [atKey_put_other (by simpa using e), e3 M hMc, idxOf_ext hMc]

theorem zbox_new (W : World) : (W.alloc (.cells #[.int .i64 0, .int .i64 0, .string ⟨#[]⟩, .slice none 0 0] 24)).heap[W.heap.size]? = some (.cells #[.int .i64 0, .int .i64 0, .string ⟨#[]⟩, .slice none 0 0] 24 (0, 0)) := World.alloc_heap_new W _

set_option maxRecDepth 100000 in
set_option maxHeartbeats 1000000 in
theorem number1_old {f : Int} {mb bb nb : Nat} {c : List Int} (N : Int) (W : World) (h0 : 0 ≤ N) (h1 : N ≤ 1099511627776) (hlt : mb < W.heap.size ∧ bb < W.heap.size ∧ nb < W.heap.size) (hI : NumI f mb bb nb c W) (hN : N ∈ c) :
    Calls Try.prog 42 #[.int .i64 N, .pointer (some ⟨bb, 0, none⟩), .pointer (some ⟨nb, 0, none⟩)] W fun e W' => e = .returned (varV (f + (c.idxOf N : Nat))).val ∧ Below W.heap.size W W' := by
  have hB1 : Below W.heap.size W (W.alloc (.cells #[.int .i64 0, .int .i64 0, .string ⟨#[]⟩, .slice none 0 0] 24)) := (Below.refl _ W).alloc (Nat.le_refl _) _
  have hI1 := numI_keep hlt.1 hlt.2.1 hlt.2.2 hI hB1
  have hrun := numI_look hI1 h0 h1 hN
  obtain ⟨m0, -⟩ := one_cell hI1.box
  have hz := zbox_new W
  generalize hM : f + (c.idxOf N : Nat) = M at hrun ⊢
  obtain ⟨W1, hW1⟩ : ∃ W1, W.alloc (.cells #[.int .i64 0, .int .i64 0, .string ⟨#[]⟩, .slice none 0 0] 24) = W1 := ⟨_, rfl⟩
  have HW1 := hide hW1
  rw [hW1] at hB1 hz
  have HB1 := hide hB1
  have HZ := hide hz
  have hva := variable_any M W1
  rw [← hW1] at hva
  clear hI hI1 hN hM hB1 hz hW1 h0 h1 hlt
  simp only [TV.val, varV] at hva ⊢
  go_enter Try.func42, Try.ntmps42
  go_wp2_with fail
  refine hva.mono ?_
  clear hva
  rintro e W2 ⟨rfl, hb2⟩
  rw [unhide HW1] at hb2
  obtain ⟨⟨z0, z1, z2, z3⟩, y0, y1, y2, y3⟩ := zbox_kept ((hb2.block W.heap.size (Array.getElem?_eq_some_iff.1 (unhide HZ)).1).trans (unhide HZ))
  have hbf : Below W.heap.size W (set4 W2 W.heap.size 0 (varV M)) := set4_below ((unhide HB1).trans (hb2.mono (unhide HB1).size)) (Nat.le_refl _) 0 _
  have HBF := hide hbf
  clear hbf hb2
  go_wp2_with fail
  exact bodyPost_ret (v := (varV M).val) (by simp [results, Try.results42, go_sem, TV.val, varV, z0, z1, z2, z3]) rfl ⟨rfl, unhide HBF⟩

set_option maxRecDepth 100000 in
set_option maxHeartbeats 1000000 in
theorem number1_new {f : Int} {mb bb nb : Nat} {c : List Int} (hf0 : 0 ≤ f) (hf1 : f ≤ 1099511627776) (hne : mb ≠ bb ∧ mb ≠ nb ∧ bb ≠ nb) (N : Int) (W : World) (h0 : 0 ≤ N) (h1 : N ≤ 1099511627776) (hlt : mb < W.heap.size ∧ bb < W.heap.size ∧ nb < W.heap.size) (hI : NumI f mb bb nb c W) (hN : N ∉ c) :
    Calls Try.prog 42 #[.int .i64 N, .pointer (some ⟨bb, 0, none⟩), .pointer (some ⟨nb, 0, none⟩)] W fun e W' => e = .returned (varV (f + (c.length : Nat))).val ∧ GrB (fun k => k = mb ∨ k = nb) W.heap.size W W' ∧ NumI f mb bb nb (c ++ [N]) W' := by
  have hle := nodup_range hI.nodup hI.key
  have hB1 : Below W.heap.size W (W.alloc (.cells #[.int .i64 0, .int .i64 0, .string ⟨#[]⟩, .slice none 0 0] 24)) := (Below.refl _ W).alloc (Nat.le_refl _) _
  have hI1 := numI_keep hlt.1 hlt.2.1 hlt.2.2 hI hB1
  have hrun := numI_miss hI1 h0 h1 hN
  obtain ⟨m0, -⟩ := one_cell hI1.box
  obtain ⟨x0, -⟩ := one_cell hI1.next
  obtain ⟨W2, hup, hg2, hnx2, hI3⟩ := numI_put hI1 hf0 hf1 hne h0 h1 hN
  obtain ⟨x2, x2f⟩ := one_cell hnx2
  have hz := zbox_new W
  have hwr : IntKind.i64.wrap (f + (c.length : Nat) + 1) = f + (c.length : Nat) + 1 := by simp [IntKind.wrap, IntKind.bits, IntKind.signed]; omega
  have hz2 : W2.heap[W.heap.size]? = some (.cells #[.int .i64 0, .int .i64 0, .string ⟨#[]⟩, .slice none 0 0] 24 (0, 0)) := (hg2.block W.heap.size (by simp) (by simp; omega)).trans hz
  have hz3 : (W2.setCell ⟨nb, 0, none⟩ (.int .i64 (f + (c.length : Nat) + 1))).heap[W.heap.size]? = some (.cells #[.int .i64 0, .int .i64 0, .string ⟨#[]⟩, .slice none 0 0] 24 (0, 0)) := by rw [Below.heap_setCell _ _ _ _ (by simp; omega)]; exact hz2
  have hg3 : GrB (fun k => k = mb ∨ k = nb) W.heap.size W (W2.setCell ⟨nb, 0, none⟩ (.int .i64 (f + (c.length : Nat) + 1))) := by
    have hs := hg2.size
    have hs1 := hB1.size
    exact ⟨hg2.os, hg2.tape, hg2.output, by simp; omega, fun k hk hx => by
      rw [Below.heap_setCell _ _ _ _ (fun e => hx (.inr (by simpa using e))), hg2.block k (by omega) (by simpa using fun e => hx (.inl e)), hB1.block k hk]⟩
  have hva := variable_any (f + (c.length : Nat)) (W2.setCell ⟨nb, 0, none⟩ (.int .i64 (f + (c.length : Nat) + 1)))
  have HZ3 := hide hz3
  have HG3 := hide hg3
  have HI3 := hide hI3
  have HL := hide hlt
  clear hI hI1 hN hB1 hz hg2 hnx2 hI3 hz2 hz3 hg3 h0 h1 hlt hle
  simp only [TV.val, varV] at hva ⊢
  go_enter Try.func42, Try.ntmps42
  go_wp2_with fail
  refine hva.mono ?_
  clear hva
  rintro e W4 ⟨rfl, hb4⟩
  obtain ⟨W3, hW3⟩ : ∃ W3, W2.setCell ⟨nb, 0, none⟩ (.int .i64 (f + (c.length : Nat) + 1)) = W3 := ⟨_, rfl⟩
  rw [hW3] at hb4 HZ3 HG3 HI3
  have hw3 : W.heap.size < W3.heap.size := (Array.getElem?_eq_some_iff.1 (unhide HZ3)).1
  obtain ⟨⟨z0, z1, z2, z3⟩, y0, y1, y2, y3⟩ := zbox_kept ((hb4.block W.heap.size hw3).trans (unhide HZ3))
  have hgf : GrB (fun k => k = mb ∨ k = nb) W.heap.size W (set4 W4 W.heap.size 0 (varV (f + (c.length : Nat)))) := ((unhide HG3).trans (GrB.of_below (hb4.mono (by omega)))).set4 (Nat.le_refl _) 0 _
  have hIf : NumI f mb bb nb (c ++ [N]) (set4 W4 W.heap.size 0 (varV (f + (c.length : Nat)))) := numI_keep (unhide HL).1 (unhide HL).2.1 (unhide HL).2.2 (unhide HI3) (set4_below (hb4.mono (by omega)) (Nat.le_refl _) 0 _)
  have HF := hide (And.intro hgf hIf)
  clear hgf hIf hb4 hW3
  go_wp2_with fail
  exact bodyPost_ret (v := (varV (f + (c.length : Nat))).val) (by simp [results, Try.results42, go_sem, TV.val, varV, z0, z1, z2, z3]) rfl ⟨rfl, unhide HF⟩

/-- number's closure says what a variable becomes, and keeps the numbers given. -/
theorem number1_becomes {f : Int} {mb bb nb lo : Nat} (hf0 : 0 ≤ f) (hf1 : f ≤ 1099511627776) (hne : mb ≠ bb ∧ mb ≠ nb ∧ bb ≠ nb) (hlo : mb < lo ∧ bb < lo ∧ nb < lo) :
    BecomesX 42 #[.pointer (some ⟨bb, 0, none⟩), .pointer (some ⟨nb, 0, none⟩)] (NumI f mb bb nb) (fun k => k = mb ∨ k = nb) lo stpN (renN f) 1 := fun N W c h0 h1 hW hI => by
  have hlt : mb < W.heap.size ∧ bb < W.heap.size ∧ nb < W.heap.size := ⟨by omega, by omega, by omega⟩
  by_cases hN : N ∈ c
  · have e : stpN c N = c := if_pos hN
    rw [e]
    refine (number1_old N W h0 h1 hlt hI hN).mono fun e W' h => ?_
    exact ⟨_, h.1, GrB.of_below h.2, numI_keep hlt.1 hlt.2.1 hlt.2.2 hI h.2, varV_holds _ _ _⟩
  · have e : stpN c N = c ++ [N] := if_neg hN
    rw [e]
    refine (number1_new hf0 hf1 hne N W h0 h1 hlt hI hN).mono fun e W' h => ?_
    refine ⟨_, h.1, h.2.1, h.2.2, ?_⟩
    have : renN f (c ++ [N]) N = [varNd (f + (c.length : Nat))] := by
      unfold renN
      rw [List.idxOf_append, if_neg hN]
      simp
    rw [this]
    exact varV_holds _ _ _
end Go.Proofs.Ytcdgmjpgmiehcaa

