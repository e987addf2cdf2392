import Derived.Test.YtcdgmjpgmiehcaaGqY
import Derived.Test.YtcdgmjpgmiehcaaRows
import Derived.Test.YtcdgmjpgmiehcaaJ
import Derived.Lib.SmallJoins
import Derived.Deep.Slices
/- grammar's Translate, whatever it is asked. -/
namespace Go.Proofs.Ytcdgmjpgmiehcaa
open Go.RowKit Go.Shelf

/-- What Translate answers: its error, and its clause by a number above the rule's variables. -/
def trK {n : Nat} : List (Tm n) → Int
  | [h, b] => if headE h.tv = 0 then berr b else headE h.tv
  | _ => 1
def trE {n : Nat} (t : Tm (n + 1)) : Int := if okT t = true then (if isB t.tv ruleL 2 = true then trK t.kids else 1) else 2
def trC {n : Nat} (t : Tm (n + 2)) (n0 : Int) : List Nd := if trE t = 0 then (match t.kids with | [h, b] => canon 0 ((4, 0, [58, 45], 2) :: ((4, 0, h.tv.s.toList, h.tv.len + 2) :: (h.kids.flatMap code ++ ([varNd n0] ++ [varNd (n0 + 1)])) ++ btwC b [varNd n0] [varNd (n0 + 1)] (n0 + 2))) | _ => noC) else noC
theorem trans_any {n : Nat} (t : Tm (n + 2)) (V : World) (hT : IsT V.heap.size V t) (pl : (parts t).length ≤ 4194304) (hn : n ≤ 34359738368) :
    Calls Try.prog 8 #[t.tv.val] V fun e V' => ∃ y : TV, e = .returned (.tuple #[y.val, .int .i64 (trE t)]) ∧ (∀ n0, (∀ N, IsVarOf (code t) N → N < n0) → HoldsG anyP (3 * n + 32) V.heap.size V' y.val (trC t n0)) ∧ Below V.heap.size V V' := by
  have hno : ∀ W : World, HoldsG anyP (3 * n + 32) V.heap.size W noTerm.val noC := fun W => (no_holds _ _ (by omega) W).holdsG (fun _ _ => trivial)
  have hC : trE t ≠ 0 → ∀ n0, trC t n0 = noC := fun h n0 => by unfold trC; rw [if_neg h]
  cases ok : okT t with
  | false =>
    have e : trE t = 2 := by unfold trE; rw [if_neg (by rw [ok]; simp)]
    refine (trans_bad t V hT ok).mono fun e' V' h => ⟨noTerm, by rw [e]; exact h.1, fun n0 _ => ?_, h.2⟩
    rw [hC (by rw [e]; decide)]
    exact hno V'
  | true =>
    cases hx : isB t.tv ruleL 2 with
    | false =>
      have e : trE t = 1 := by unfold trE; rw [if_pos ok, if_neg (by rw [hx]; simp)]
      refine (trans_not t V hT ok pl (by omega) hx).mono fun e' V' h => ⟨noTerm, by rw [e]; exact h.1, fun n0 _ => ?_, h.2⟩
      rw [hC (by rw [e]; decide)]
      exact hno V'
    | true =>
      obtain ⟨x, kids⟩ := t
      have hl : x.len = 2 := by have := isB_len hx; simp only [Tm.tv] at this; omega
      obtain ⟨h, b, rfl⟩ := two_kids hT.wl hl
      have eK : trE (n := n + 1) ((x, [h, b]) : TV × List (Tm (n + 1))) = if headE h.tv = 0 then berr b else headE h.tv := by unfold trE; rw [if_pos ok, if_pos hx]; rfl
      by_cases hh : headE h.tv = 0
      · rw [if_pos hh] at eK
        by_cases hb : berr b = 0
        · refine (trans_yes x h b V hT ok pl (by omega) hx hh hb).mono fun e' V' hq => ?_
          obtain ⟨y, e1, e2, e3⟩ := hq
          refine ⟨y, by rw [eK, hb]; exact e1, fun n0 hn0 => ?_, e3⟩
          have := e2 n0 hn0
          unfold trC
          rw [if_pos (by rw [eK]; exact hb)]
          exact this
        · refine (trans_body x h b V hT ok pl (by omega) hx hh hb).mono fun e' V' hq => ⟨noTerm, by rw [eK]; exact hq.1, fun n0 _ => ?_, hq.2⟩
          rw [hC (by rw [eK]; exact hb)]
          exact hno V'
      · rw [if_neg hh] at eK
        refine (trans_head x h b V hT ok pl (by omega) hx hh).mono fun e' V' hq => ⟨noTerm, by rw [eK]; exact hq.1, fun n0 _ => ?_, hq.2⟩
        rw [hC (by rw [eK]; exact hh)]
        exact hno V'
end Go.Proofs.Ytcdgmjpgmiehcaa

/- What a goal's parts are, whatever its numbers: mathematics. -/
namespace Go.Proofs.Ytcdgmjpgmiehcaa
open Go.RowKit Go.Shelf

/-- Variables have no Args and no name; no part has more than fifty Args. -/
def okN (x : Nd) : Bool := (!(x.1 == 1) || (x.2.2.2 == 0 && x.2.2.1 == [])) && decide (x.2.2.2 ≤ 50)
theorem okLT_code {n : Nat} (t : Tm n) : okLT t = (code t).all okN := by
  unfold okLT code
  rw [List.all_map]
  rfl
theorem okN_of {c : List Nd} (h : c.all okM = true) : c.all okN = true := by
  rw [List.all_eq_true] at h ⊢
  intro x hx
  have := h x hx
  obtain ⟨k, N, s, l⟩ := x
  simp [okM] at this
  simp [okN]
  by_cases h1 : k = 1
  · simp [h1] at this ⊢
    obtain ⟨⟨_, hs⟩, hl⟩ := this
    exact ⟨⟨hl, hs⟩, by omega⟩
  · simp [h1] at this ⊢
    by_cases h2 : k = 2
    · simp [h2] at this; omega
    · by_cases h3 : k = 3
      · simp [h3] at this; omega
      · simp [h2, h3] at this; omega
theorem varN (N : Int) : [varNd N].all okN = true := by simp [okN, varNd]
/-- A goal's parts are well made, but for their numbers. -/
theorem btw_okN {n : Nat} (t : Tm n) (hw : Wl t) (ok : okT t = true) (he : berr t = 0) {s r : List Nd} (f : Int) (hs : s.all okN = true) (hr : r.all okN = true) : (btwC t s r f).all okN = true :=
  btw_all (p := okN) (fun l j _ h1 h2 => by simp [okN]; omega) (by decide) (fun u c hwu oku hb _ => okN_of (body_fine hwu oku hb).1) (fun x _ _ => by simp [okN, varNd]) t hw ok he (okN_of (by rw [← okT_m]; exact ok)) s r f hs hr (fun i _ => by simp [okN, varNd])
end Go.Proofs.Ytcdgmjpgmiehcaa

/- A term that can be read as data, and is of a bulk that is small, lies in memory as IsT says, at every number of storeys from the bulk on. -/
namespace Go.Proofs.Ytcdgmjpgmiehcaa
open Go.RowKit Go.Joins Go.WideShapes

theorem Try.cells28 : Try.prog.cellsOf 24 = 4 := by kernel_rfl
theorem Try.cells3 : Try.prog.cellsOf 3 = 1 := by kernel_rfl
theorem Try.cells2 : Try.prog.cellsOf 2 = 1 := by kernel_rfl
theorem Try.cells9 : Try.prog.cellsOf 9 = 1 := by kernel_rfl
theorem Try.cells26 : Try.prog.cellsOf 22 = 1 := by kernel_rfl

theorem list4 {α : Type} {l : List α} (h : l.length = 4) : ∃ a b c d, l = [a, b, c, d] := by
  match l, h with
  | [a, b, c, d], _ => exact ⟨a, b, c, d, rfl⟩

theorem cells4 {w : World} {base : Nat} {a : Addr} {c0 c1 c2 c3 : Value} (h : w.cells? base a 4 = some [c0, c1, c2, c3]) : a.spot = none ∧ w.cell? ⟨a.block, a.off, none⟩ = some c0 ∧ w.cell? ⟨a.block, a.off + 1, none⟩ = some c1 ∧ w.cell? ⟨a.block, a.off + 2, none⟩ = some c2 ∧ w.cell? ⟨a.block, a.off + 3, none⟩ = some c3 := by
  unfold World.cells? at h
  split at h
  · obtain ⟨b, off, spot⟩ := a
    simp [List.range_succ, List.mapM_cons, Addr.add, Option.bind_eq_some_iff] at h
    obtain ⟨h0, h1, h2, h3⟩ := h
    have hs : spot = none := World.cell?_spot h0
    subst hs
    exact ⟨rfl, h0, h1, h2, h3⟩
  · cases h

theorem mapM_size {α β : Type} {f : α → Option β} : ∀ {l : List α} {r : List β}, l.mapM f = some r → r.length = l.length
  | [], r, h => by simp at h; subst h; rfl
  | a :: l, r, h => by
    simp [List.mapM_cons, Option.bind_eq_some_iff] at h
    obtain ⟨b, _, r', hr, rfl⟩ := h
    simp [mapM_size hr]
theorem cells_len {w : World} {base : Nat} {a : Addr} {n : Nat} {cs : List Value} (h : w.cells? base a n = some cs) : cs.length = n := by
  unfold World.cells? at h
  split at h
  · have := mapM_size h; simpa using this
  · cases h

theorem list_of {α : Type} {p : Nat → α → Prop} : ∀ {n : Nat}, (∀ i, i < n → ∃ x, p i x) → ∃ l : List α, l.length = n ∧ ∀ j u, l[j]? = some u → p j u
  | 0, _ => ⟨[], rfl, fun j u h => by simp at h⟩
  | n + 1, h => by
    obtain ⟨l, hl, hp⟩ := list_of (n := n) (fun i hi => h i (by omega))
    obtain ⟨x, hx⟩ := h n (by omega)
    refine ⟨l ++ [x], by simp [hl], fun j u hu => ?_⟩
    by_cases hj : j < n
    · rw [List.getElem?_append_left (by omega)] at hu; exact hp j u hu
    · rw [List.getElem?_append_right (by omega)] at hu
      have hj2 : j - l.length = 0 := by
        by_cases e : j - l.length = 0
        · exact e
        · rw [List.getElem?_eq_none (by simp; omega)] at hu; cases hu
      rw [hj2] at hu
      simp at hu
      subst hu
      obtain rfl : j = n := by omega
      exact hx
theorem add_none (b off n : Nat) : Addr.add ⟨b, off, none⟩ n = ⟨b, off + n, none⟩ := by
  unfold Addr.add; split
  · rename_i h; subst h; rfl
  · rfl
theorem cell_lt {w : World} {b o : Nat} {v : Value} (h : w.cell? ⟨b, o, none⟩ = some v) : b < w.heap.size := by
  unfold World.cell? at h
  simp only at h
  cases hb : w.heap[b]? with
  | none => rw [hb] at h; cases h
  | some ob => exact (Array.getElem?_eq_some_iff.1 hb).1

/-- As IsT, however deep. -/
def IsU (n₀ : Nat) (W : World) : {n : Nat} → Tm n → Prop
  | 0, t => Empty.elim t
  | _ + 1, t => t.tv.len = t.kids.length ∧ (t.tv.len ≤ 9223372036854775807 ∧ t.tv.len ≤ t.tv.cap) ∧ t.tv.s.size ≤ 9223372036854775807 ∧ (t.kids = [] ∨ ∃ b off, t.tv.a = some ⟨b, off, none⟩ ∧ b < n₀ ∧
      ∀ j u, t.kids[j]? = some u → cellsAt W b (off + j * 4) u.tv ∧ IsU n₀ W u)
theorem isU_mk {n n₀ : Nat} {W : World} (x : TV) (kids : List (Tm n)) (h1 : x.len = kids.length) (h2 : x.len ≤ 9223372036854775807 ∧ x.len ≤ x.cap) (h3 : x.s.size ≤ 9223372036854775807)
    (h4 : kids = [] ∨ ∃ b off, x.a = some ⟨b, off, none⟩ ∧ b < n₀ ∧ ∀ j u, kids[j]? = some u → cellsAt W b (off + j * 4) u.tv ∧ IsU n₀ W u) : IsU n₀ W (n := n + 1) ((x, kids) : TV × List (Tm n)) := ⟨h1, h2, h3, h4⟩
theorem lower_list {n₀ n m : Nat} {W : World} : ∀ (kids : List (Tm n)), (∀ u ∈ kids, ∃ t' : Tm m, t'.tv = u.tv ∧ IsT n₀ W t' ∧ parts t' = parts u) →
    ∃ kids' : List (Tm m), kids'.length = kids.length ∧ (∀ (j : Nat) (u' : Tm m), kids'[j]? = some u' → ∃ u : Tm n, kids[j]? = some u ∧ u'.tv = u.tv ∧ IsT n₀ W u') ∧ kids'.flatMap parts = kids.flatMap parts
  | [], _ => ⟨[], rfl, fun j u' h => by simp at h, rfl⟩
  | u :: kids, h => by
    obtain ⟨t', e1, e2, e3⟩ := h u (by simp)
    obtain ⟨ks, k1, k2, k3⟩ := lower_list kids (fun z hz => h z (by simp [hz]))
    refine ⟨t' :: ks, by simp [k1], fun j u' hu => ?_, by simp [e3, k3]⟩
    cases j with
    | zero => simp at hu; subst hu; exact ⟨u, rfl, e1, e2⟩
    | succ j =>
      obtain ⟨z, z1, z2⟩ := k2 j u' (by simpa using hu)
      exact ⟨z, by simpa using z1, z2⟩
theorem part_len {n : Nat} {kids : List (Tm n)} {u : Tm n} (h : u ∈ kids) : (parts u).length ≤ (kids.flatMap parts).length := by
  induction kids with
  | nil => cases h
  | cons z kids ih =>
    simp only [List.flatMap_cons, List.length_append]
    rcases List.mem_cons.1 h with rfl | h
    · omega
    · have := ih h
      omega
/-- A term of few parts is not nested deeper than it has parts. -/
theorem lower {n₀ : Nat} {W : World} : ∀ (n : Nat) (t : Tm n), IsU n₀ W t → ∀ m, (parts t).length ≤ m → m ≤ 2199023255552 → ∃ t' : Tm m, t'.tv = t.tv ∧ IsT n₀ W t' ∧ parts t' = parts t := by
  intro n
  induction n with
  | zero => intro t; exact Empty.elim t
  | succ n ih =>
    intro t ht m hm hlim
    obtain ⟨x, kids⟩ := t
    obtain ⟨h1, h2, h3, h4⟩ := ht
    have hp : parts (n := n + 1) ((x, kids) : TV × List (Tm n)) = x :: kids.flatMap parts := rfl
    rw [hp] at hm ⊢
    simp only [List.length_cons] at hm
    obtain ⟨m, rfl⟩ : ∃ k, m = k + 1 := ⟨m - 1, by omega⟩
    have hu : ∀ u ∈ kids, IsU n₀ W u := fun u hu => by
      rcases h4 with h4 | ⟨b, off, _, _, hk⟩
      · have h4' : kids = [] := h4
        rw [h4'] at hu; cases hu
      · obtain ⟨j, hj⟩ := List.mem_iff_getElem?.1 hu
        exact (hk j u hj).2
    obtain ⟨ks, k1, k2, k3⟩ := lower_list (m := m) (n₀ := n₀) (W := W) kids (fun u hu' => ih u (hu u hu') m (by have := part_len hu'; omega) (by omega))
    refine ⟨((x, ks) : TV × List (Tm m)), rfl, ⟨?_, ⟨h2.1, h2.2, hlim⟩, h3, ?_⟩, ?_⟩
    · show x.len = ks.length
      rw [k1]; exact h1
    · rcases h4 with h4 | ⟨b, off, ha, hb, hk⟩
      · refine .inl ?_
        have h4' : kids = [] := h4
        show ks = []
        rw [h4'] at k1
        exact List.length_eq_zero_iff.1 k1
      · refine .inr ⟨b, off, ha, hb, fun j u' hu' => ?_⟩
        obtain ⟨u, q1, q2, q3⟩ := k2 j u' hu'
        exact ⟨by rw [q2]; exact (hk j u q1).1, q3⟩
    · show x :: ks.flatMap parts = _
      rw [k3]
theorem bulk_one {H : Type} (d : DataW H) : 1 ≤ Rows.uptoBulk d := by
  cases d with
  | lit l => cases l <;> simp [Rows.uptoBulk]
  | nil => simp [Rows.uptoBulk]
  | ptr d => simp [Rows.uptoBulk]
  | slice elems spare => simp [Rows.uptoBulk]
  | agg parts => simp [Rows.uptoBulk]
  | iface t d => simp [Rows.uptoBulk]
  | map entries => simp [Rows.uptoBulk]
  | held h => simp [Rows.uptoBulk]
theorem bulk_len {H : Type} (l : List (DataW H)) : l.length ≤ Rows.uptoBulkAll l := by
  induction l with
  | nil => simp [Rows.uptoBulkAll]
  | cons x r ih => have := bulk_one x; simp only [Rows.uptoBulkAll, List.length_cons]; omega
theorem bulk_list {H : Type} {d : DataW H} {len : Nat} (h : len = 0 ∨ ∃ es sp, d = .slice es sp ∧ es.length = len) : len ≤ Rows.uptoBulk d := by
  rcases h with h | ⟨es, sp, rfl, h⟩
  · omega
  · have := bulk_len es
    simp only [Rows.uptoBulk]
    omega
theorem bulk_part {H : Type} {d : DataW H} {l : List (DataW H)} (h : d ∈ l) : Rows.uptoBulk d ≤ Rows.uptoBulkAll l := by
  induction l with
  | nil => cases h
  | cons x r ih =>
    simp only [Rows.uptoBulkAll]
    cases List.mem_cons.1 h with
    | inl e => subst e; omega
    | inr e => have := ih e; omega
theorem bulk_kids {H : Type} {n : Nat} : ∀ (kids : List (Tm n)) (ds : List (DataW H)), kids.length = ds.length → (∀ (i : Nat) (u : Tm n) (d : DataW H), kids[i]? = some u → ds[i]? = some d → (code u).length ≤ Rows.uptoBulk d) → (kids.flatMap code).length ≤ Rows.uptoBulkAll ds
  | [], ds, _, _ => by simp
  | u :: kids, [], h, _ => by simp at h
  | u :: kids, d :: ds, h, hk => by
    have h1 := hk 0 u d rfl rfl
    have h2 := bulk_kids kids ds (by simpa using h) (fun i u d hu hd => hk (i + 1) u d (by simpa using hu) (by simpa using hd))
    simp only [List.flatMap_cons, List.length_append, Rows.uptoBulkAll]
    omega

def Nw (x : TV) : Prop := -9223372036854775808 ≤ x.N ∧ x.N ≤ 9223372036854775807
theorem nums_kids {m : Nat} {x : TV} {kids : List (Tm m)} (h0 : Nw x) (h : ∀ u ∈ kids, ∀ y ∈ parts u, Nw y) : ∀ y ∈ parts (n := m + 1) ((x, kids) : TV × List (Tm m)), Nw y := fun y hy => by
  have hy' : y ∈ x :: kids.flatMap parts := hy
  rcases List.mem_cons.1 hy' with e | e
  · rw [e]; exact h0
  · obtain ⟨u, hu, e⟩ := List.mem_flatMap.1 e
    exact h u hu y e
theorem nw_wf {k N : Int} {s : ByteArray} {a : Option Addr} {l c : Nat} (h : (Lit.int .i64 N).wf = true) : Nw ⟨k, N, s, a, l, c⟩ := by
  simp only [Lit.wf, Bool.and_eq_true, decide_eq_true_eq] at h
  exact h

/-- The cells of a term that can be read, and how many parts it has. -/
theorem open_nums {H : Type} {enc : TypeId × Value → H} {w : World} {spare : Nat → Bool} {held : Bool} : ∀ (k fuel : Nat), fuel ≤ k → ∀ (m : Nat), fuel ≤ m → ∀ (cs : List Value) (y : DataW H × List MemPlace),
    DataW.trod enc Try.prog w 0 spare held fuel 24 cs = some y → ∃ t : Tm m, cs = [.int .i64 t.tv.k, .int .i64 t.tv.N, .string t.tv.s, .slice t.tv.a t.tv.len t.tv.cap] ∧ IsU w.heap.size w t ∧ (code t).length ≤ Rows.uptoBulk y.1 ∧ ∀ x ∈ parts t, Nw x := by
  intro k
  induction k with
  | zero =>
    intro fuel hf m _ cs y h
    obtain rfl : fuel = 0 := by omega
    simp [DataW.trod] at h
  | succ k ih =>
    intro fuel hf m hm cs y h
    obtain ⟨xs, n, rfl, rfl, hl, hxl, hfs⟩ := DataW.trod_struct Try.underlying24 h
    rw [Try.cells28] at hl
    have hx4 : xs.length = 4 := hxl
    clear hxl
    obtain ⟨v0, v1, v2, v3, rfl⟩ := list4 hl
    have f0 : DataW.trod enc Try.prog w 0 spare held n 3 (List.take (Try.prog.cellsOf 3) (List.drop 0 [v0, v1, v2, v3])) = xs[0]? := hfs 0 _ rfl
    have f1 : DataW.trod enc Try.prog w 0 spare held n 2 (List.take (Try.prog.cellsOf 2) (List.drop 1 [v0, v1, v2, v3])) = xs[1]? := hfs 1 _ rfl
    have f2 : DataW.trod enc Try.prog w 0 spare held n 9 (List.take (Try.prog.cellsOf 9) (List.drop 2 [v0, v1, v2, v3])) = xs[2]? := hfs 2 _ rfl
    have f3 : DataW.trod enc Try.prog w 0 spare held n 22 (List.take (Try.prog.cellsOf 22) (List.drop 3 [v0, v1, v2, v3])) = xs[3]? := hfs 3 _ rfl
    rw [Try.cells3] at f0
    rw [Try.cells2] at f1
    rw [Try.cells9] at f2
    rw [Try.cells26] at f3
    simp only [List.drop_zero, List.drop_succ_cons, List.take_succ_cons, List.take_zero] at f0 f1 f2 f3
    clear hfs
    obtain ⟨x0, x1, x2, x3, rfl⟩ := list4 hx4
    simp only [List.getElem?_cons_zero, List.getElem?_cons_succ] at f0 f1 f2 f3
    obtain ⟨tk, g0, -, -⟩ := DataW.trod_int Try.underlying3 f0
    obtain ⟨tN, g1, -, hwf⟩ := DataW.trod_int Try.underlying2 f1
    obtain ⟨ts, g2, -, hsm⟩ := DataW.trod_string Try.underlying9 f2
    simp only [List.cons.injEq, and_true] at g0 g1 g2
    subst g0 g1 g2
    unfold maxLen at hsm
    have hbulk : Rows.uptoBulk x3.1 ≤ Rows.uptoBulkAll ([x0, x1, x2, x3].map (·.1)) := bulk_part (by simp)
    have hb1 := bulk_one x3.1
    obtain ⟨m', rfl⟩ : ∃ m', m = m' + 1 := ⟨m - 1, by omega⟩
    rcases DataW.trod_slice Try.underlying22 f3 with ⟨g3, -⟩ | ⟨a, len, cap, elems, rest, n', hn', g3, hd3, hb, hlc, hmx, hlen, hel, -, -⟩
    · simp only [List.cons.injEq, and_true] at g3
      subst g3
      refine ⟨((⟨tk, tN, ts, none, 0, 0⟩, []) : TV × List (Tm m')), rfl, ⟨rfl, ⟨by simp [Tm.tv], by simp [Tm.tv]⟩, by simp only [Tm.tv]; omega, .inl rfl⟩, ?_, nums_kids (nw_wf hwf) (fun u hu => by cases hu)⟩
      rw [code_succ]
      simp only [Rows.uptoBulk, List.flatMap_nil, List.length_cons, List.length_nil]
      omega
    · simp only [List.cons.injEq, and_true] at g3
      subst g3
      unfold maxLen at hmx
      by_cases hl0 : len = 0
      · subst hl0
        refine ⟨((⟨tk, tN, ts, some a, 0, cap⟩, []) : TV × List (Tm m')), rfl, ⟨rfl, ⟨by simp [Tm.tv], by simp [Tm.tv]⟩, by simp only [Tm.tv]; omega, .inl rfl⟩, ?_, nums_kids (nw_wf hwf) (fun u hu => by cases hu)⟩
        rw [code_succ]
        simp only [Rows.uptoBulk, List.flatMap_nil, List.length_cons, List.length_nil]
        omega
      · have hel' : ∀ i, i < len → ∃ u : Tm m', w.cells? 0 (a.add (i * 4)) 4 = some [.int .i64 u.tv.k, .int .i64 u.tv.N, .string u.tv.s, .slice u.tv.a u.tv.len u.tv.cap] ∧ IsU w.heap.size w u ∧ (∀ x ∈ parts u, Nw x) ∧ ∀ d, (elems.map (·.1))[i]? = some d → (code u).length ≤ Rows.uptoBulk d := by
          intro i hi
          have h1 := hel i hi
          rw [List.getElem?_eq_getElem (by omega)] at h1
          obtain ⟨cs', h2, h3⟩ := Option.bind_eq_some_iff.1 h1
          obtain ⟨u, hu, hT, hc, hnw⟩ := ih n' (by omega) m' (by omega) cs' _ h3
          subst hu
          rw [Try.cells28] at h2
          refine ⟨u, h2, hT, hnw, fun d hd => ?_⟩
          rw [List.getElem?_map, List.getElem?_eq_getElem (by omega)] at hd
          simp at hd
          rw [← hd]
          exact hc
        clear hel
        obtain ⟨b, off, spot⟩ := a
        have hspot : spot = none := by
          obtain ⟨u, h2, -⟩ := hel' 0 (by omega)
          obtain ⟨s1, -⟩ := cells4 h2
          simpa [Addr.add] using s1
        subst hspot
        have hkid : ∀ i, i < len → ∃ u : Tm m', b < w.heap.size ∧ (cellsAt w b (off + i * 4) u.tv ∧ IsU w.heap.size w u) ∧ (∀ x ∈ parts u, Nw x) ∧ ∀ d, (elems.map (·.1))[i]? = some d → (code u).length ≤ Rows.uptoBulk d := by
          intro i hi
          obtain ⟨u, h2, hT, hnw, hc⟩ := hel' i hi
          rw [add_none] at h2
          obtain ⟨-, k0, k1, k2, k3⟩ := cells4 h2
          exact ⟨u, cell_lt k0, ⟨⟨k0, k1, k2, k3⟩, hT⟩, hnw, hc⟩
        obtain ⟨kids, hkl, hks⟩ := list_of hkid
        obtain ⟨_, hb0, _⟩ := hkid 0 (by omega)
        clear hkid hel' ih
        have hl63 : len ≤ 9223372036854775807 ∧ len ≤ cap := ⟨by omega, hlc⟩
        have hs63 : ts.size ≤ 9223372036854775807 := by omega
        have hfin : IsU w.heap.size w (n := m' + 1) (((⟨tk, tN, ts, some ⟨b, off, none⟩, len, cap⟩ : TV), kids) : TV × List (Tm m')) := isU_mk _ kids hkl.symm hl63 hs63 (.inr ⟨b, off, rfl, hb0, fun j u hu => (hks j u hu).2.1⟩)
        refine ⟨_, rfl, hfin, ?_, nums_kids (nw_wf hwf) (fun u hu => by obtain ⟨i, hi⟩ := List.getElem?_of_mem hu; exact (hks i u hi).2.2.1)⟩
        have hsum := bulk_kids kids (elems.map (·.1)) (by simp [hkl, hlen]) (fun i u d hu hd => (hks i u hu).2.2.2 d hd)
        rw [code_succ]
        have h3 : Rows.uptoBulkAll (elems.map (·.1)) + 1 ≤ Rows.uptoBulk x3.1 := by rw [hd3]; simp only [Rows.uptoBulk]; omega
        simp only [Rows.uptoBulk, List.length_cons]
        omega

set_option maxRecDepth 100000 in
/-- An argument that is a term of a small bulk: from that bulk on it is one, of no more parts. -/
theorem open_arg_nums {H : Type} {enc : TypeId × Value → H} {w : World} {r : Reach} {b0 : Nat} {spare : Nat → Bool} {held : Bool} {v : Value} {d : DataW H} {p : List MemPlace} (hv : Value.okWide Try.prog w r b0 24 v) (h : DataW.Trod enc Try.prog w 0 spare held 24 v d p) :
    ∀ m, Rows.uptoBulk d ≤ m → m ≤ 2199023255552 → ∃ t : Tm m, v = t.tv.val ∧ IsT w.heap.size w t ∧ (code t).length ≤ Rows.uptoBulk d ∧ ∀ x ∈ parts t, Nw x := by
  obtain ⟨cs, rfl, _⟩ := okWide_struct Try.underlying24 hv
  obtain ⟨fuel, hf⟩ := h
  intro m hm hlim
  obtain ⟨t0, ht, hU, hc, hnw⟩ := open_nums fuel fuel (Nat.le_refl _) fuel (Nat.le_refl _) _ _ hf
  have hc' : (parts t0).length ≤ Rows.uptoBulk d := by simpa [code] using hc
  obtain ⟨t, e1, e2, e3⟩ := lower fuel t0 hU m (by omega) hlim
  refine ⟨t, ?_, e2, by simpa [code, e3] using hc', by rw [e3]; exact hnw⟩
  have : cs.toList = [.int .i64 t0.tv.k, .int .i64 t0.tv.N, .string t0.tv.s, .slice t0.tv.a t0.tv.len t0.tv.cap] := by simpa [Value.cells] using ht
  rw [← e1] at this
  unfold TV.val
  rw [← this]
end Go.Proofs.Ytcdgmjpgmiehcaa

