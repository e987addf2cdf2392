import Derived.Test.YtojefplapklbmaaGreatDoorObs
import Derived.Test.YtojefplapklbmaaGreatDoorBw
import Derived.Test.YtojefplapklbmaaGreatDoorNss
/- Plain mathematics of matT, sorted rows by their members, and what a list of binds keeps while a map is ranged over. -/
namespace Go.Proofs.YtojefplapklbmaaGreatDoor
open Go.RowKit Go.Shelf Go.Maps

/-- Two sorted rows with the same members, no key twice, are one. -/
theorem up_ext {β : Type} : ∀ {a b : List (Int × β)}, Up a → Once a → Up b → Once b → (∀ q, q ∈ a ↔ q ∈ b) → a = b
  | [], [], _, _, _, _, _ => rfl
  | [], y :: b, _, _, _, _, h => by have := (h y).2 (by simp); cases this
  | x :: a, [], _, _, _, _, h => by have := (h x).1 (by simp); cases this
  | x :: a, y :: b, ua, oa, ub, ob, h => by
    have hxy : x = y := by
      rcases List.mem_cons.1 ((h x).1 (by simp)) with e | e
      · exact e
      · rcases List.mem_cons.1 ((h y).2 (by simp)) with e' | e'
        · exact e'.symm
        · have h1 := (List.pairwise_cons.1 ub).1 x e
          have h2 := (List.pairwise_cons.1 ua).1 y e'
          have h3 := (List.pairwise_cons.1 oa).1 y e'
          omega
    subst hxy
    congr 1
    refine up_ext (List.pairwise_cons.1 ua).2 (List.pairwise_cons.1 oa).2 (List.pairwise_cons.1 ub).2 (List.pairwise_cons.1 ob).2 fun q => ?_
    constructor
    · intro hq
      rcases List.mem_cons.1 ((h q).1 (by simp [hq])) with e | e
      · subst e; exact ((List.pairwise_cons.1 oa).1 q hq rfl).elim
      · exact e
    · intro hq
      rcases List.mem_cons.1 ((h q).2 (by simp [hq])) with e | e
      · subst e; exact ((List.pairwise_cons.1 ob).1 q hq rfl).elim
      · exact e
theorem insF_mem {β : Type} {l : List (Int × β)} {q : Int × β} : q ∈ insF l ↔ q ∈ l := (insF_perm l).mem_iff
theorem insF_once {β : Type} {l : List (Int × β)} (h : Once l) : Once (insF l) := ((insF_perm l).pairwise_iff (fun {_ _} hne => Ne.symm hne)).2 h
theorem insF_same {β : Type} {a b : List (Int × β)} (ha : Once a) (hb : Once b) (h : ∀ q, q ∈ a ↔ q ∈ b) : insF a = insF b :=
  up_ext (insF_up a) (insF_once ha) (insF_up b) (insF_once hb) (fun q => by rw [insF_mem, insF_mem, h q])

/-- Whether a part is well made, by its node. -/
def okNd : Nd → Bool
  | (k, N, s, len) =>
    if k = 1 then decide (0 ≤ N) && decide (N ≤ 1099511627776) && decide (s = []) && ((len : Int) == 0)
    else if k = 2 then decide (s = []) && ((len : Int) == 0)
    else if k = 3 then decide (N = 0) && decide ((s.length : Int) ≤ 100) && ((len : Int) == 0)
    else if k = 4 then decide (N = 0) && decide ((s.length : Int) ≤ 100) && decide (1 ≤ (len : Int)) && decide ((len : Int) ≤ 50)
    else false
theorem bytes_len (s : ByteArray) : s.toList.length = s.size := by rw [ByteArray.toList_eq]; simp
theorem ok_nd (x : TV) : x.ok = okNd x.nd := by
  show wmB x.k x.N x.s x.len = okNd (x.k, x.N, x.s.toList, x.len)
  unfold wmB okNd
  rw [← bytes_len]
theorem matT_var {n : Nat} {p t : Tm (n + 1)} {c : List (Int × List Nd)} (h : p.tv.k = 1) : matT p t c = matV p.tv.N (code t) c := by
  obtain ⟨x, kids⟩ := p
  simp only [matT]; rw [if_pos h]
theorem matT_same {n : Nat} {p t : Tm (n + 1)} {c : List (Int × List Nd)} (h : ¬ p.tv.k = 1) (hs : stop p.tv t.tv = true) : matT p t c = matL matT p.kids t.kids c := by
  obtain ⟨x, kids⟩ := p
  simp only [matT]; rw [if_neg h, if_pos hs]
theorem matT_else {n : Nat} {p t : Tm (n + 1)} {c : List (Int × List Nd)} (h : ¬ p.tv.k = 1) (hs : ¬ stop p.tv t.tv = true) : matT p t c = (false, c) := by
  obtain ⟨x, kids⟩ := p
  simp only [matT]; rw [if_neg h, if_neg hs]
theorem code_kids {n : Nat} (p : Tm (n + 1)) : code p = p.tv.nd :: p.kids.flatMap code := by
  obtain ⟨x, kids⟩ := p
  exact code_succ x kids
theorem ok_kids' {n : Nat} {p : Tm (n + 1)} (h : okT p = true) : ∀ u ∈ p.kids, okT u = true := by
  obtain ⟨x, kids⟩ := p
  exact (ok_kids h).2
theorem okT_code {n : Nat} (t : Tm n) : okT t = (code t).all okNd := by
  unfold okT code
  rw [List.all_map]
  congr 1
  funext x
  exact ok_nd x

theorem matV_len (N : Int) (ct : List Nd) (c : List (Int × List Nd)) : (matV N ct c).2.length ≤ c.length + 1 := by
  unfold matV
  split <;> simp
theorem matL_len {n : Nat} {f : Tm n → Tm n → List (Int × List Nd) → Bool × List (Int × List Nd)} (hf : ∀ p t c, (f p t c).2.length ≤ c.length + (code p).length) : ∀ (ps ts : List (Tm n)) (c : List (Int × List Nd)), (matL f ps ts c).2.length ≤ c.length + (ps.flatMap code).length
  | [], _, c => by simp [matL]
  | p :: ps, [], c => by simp [matL]
  | p :: ps, t :: ts, c => by
    have h1 := hf p t c
    have h2 := matL_len hf ps ts (f p t c).2
    simp only [matL, List.flatMap_cons, List.length_append]
    split
    · omega
    · simp only; omega
theorem matT_len : ∀ {n : Nat} (p t : Tm n) (c : List (Int × List Nd)), (matT p t c).2.length ≤ c.length + (code p).length
  | 0, p, _, _ => Empty.elim p
  | n + 1, p, t, c => by
    have h1 := matV_len p.tv.N (code t) c
    have h2 := matL_len (fun p t c => matT_len (n := n) p t c) p.kids t.kids c
    rw [code_kids, List.length_cons]
    by_cases hk : p.tv.k = 1
    · rw [matT_var hk]; omega
    · by_cases hs : stop p.tv t.tv = true
      · rw [matT_same hk hs]; omega
      · rw [matT_else hk hs]; simp only; omega
/-- What the map gets are parts of t. -/
theorem matL_ok {n : Nat} {f : Tm n → Tm n → List (Int × List Nd) → Bool × List (Int × List Nd)} (hf : ∀ p t c, okT t = true → (∀ q ∈ c, q.2.all okNd = true) → ∀ q ∈ (f p t c).2, q.2.all okNd = true) : ∀ (ps ts : List (Tm n)) (c : List (Int × List Nd)), (∀ t ∈ ts, okT t = true) → (∀ q ∈ c, q.2.all okNd = true) → ∀ q ∈ (matL f ps ts c).2, q.2.all okNd = true
  | [], _, c, _, h => by simpa [matL] using h
  | p :: ps, [], c, _, h => by simpa [matL] using h
  | p :: ps, t :: ts, c, ht, h => by
    have h1 := hf p t c (ht t (by simp)) h
    simp only [matL]
    split
    · exact matL_ok hf ps ts _ (fun u hu => ht u (by simp [hu])) h1
    · exact h1
theorem matT_ok : ∀ {n : Nat} (p t : Tm n) (c : List (Int × List Nd)), okT t = true → (∀ q ∈ c, q.2.all okNd = true) → ∀ q ∈ (matT p t c).2, q.2.all okNd = true
  | 0, p, _, _, _, _ => Empty.elim p
  | n + 1, p, t, c, ht, h => by
    have hk := ok_kids' ht
    have h2 := matL_ok (fun p t c => matT_ok (n := n) p t c) p.kids t.kids c hk h
    by_cases hk : p.tv.k = 1
    · rw [matT_var hk]
      unfold matV
      split
      · exact h
      · intro q hq
        rcases List.mem_append.1 hq with hq | hq
        · exact h q hq
        · simp at hq; subst hq; rw [← okT_code]; exact ht
    · by_cases hs : stop p.tv t.tv = true
      · rw [matT_same hk hs]; exact h2
      · rw [matT_else hk hs]; exact h

/-- A list of binds in memory of its own, while another block is changed. -/
theorem MadeB.grown {D base : Nat} {W W' : World} {v : Value} {l : List (Int × TV)} {c : List (Int × List Nd)} {r : Nat} (h : MadeB D (base ≤ ·) base W v l c) (hg : W.grownBy W' (some r)) (hr : r < base) : MadeB D (base ≤ ·) base W' v l c :=
  ⟨owns_below h.owns (fun g hg' => hg.block g (owns_lt h.owns hg').2 (by have := (owns_lt h.owns hg').1; simp; omega)), fun M hM hlm => by
    obtain ⟨ks, k1, k2, k3⟩ := h.kids M hM hlm
    refine ⟨ks, k1, fun p hp => ?_, k3⟩
    obtain ⟨z1, z2⟩ := k2 p hp
    have z3 := z2.and z1.blk
    exact ⟨(z1.fromS (fun b hb => hg.block b hb.2 (by have := hb.1.2; simp; omega)) z3).mono hg.size, z2⟩⟩
end Go.Proofs.YtojefplapklbmaaGreatDoor

/- The contract of term.Match. -/
namespace Go.Proofs.YtojefplapklbmaaGreatDoor
open Go.RowKit Go.Shelf Go.Maps

/-- The step of a range over a map of terms. -/
theorem next_term (w : World) {ops : Array Oper} {rest : List Oper} {o : Oper} {a : Act} {Q : Exit → Act → World → Prop} (hg : o.guard = none) (it : Operand) (hop : o.op = Op.next it false)
    (b r n : Nat) (E : DataW TV) (left : Lit → Bool) (cnt : Nat) (hit : a.eval it = .pointer (some ⟨r, 0, none⟩)) (h : w.ranges Tryz.prog 2 termElem b r n E left cnt)
    (hDone : cnt = 0 → (∀ kl, left kl = false) → wpList Tryz.prog ops Q rest (a.put o.dst (.tuple #[.bool false])) w)
    (hMore : ∀ (N : Int) (x : TV) (w' : World) (cnt' : Nat), left (.int .i64 N) = true → (∀ zd, E.atKey (.int .i64 N) zd = .held x) → w'.ranges Tryz.prog 2 termElem b r n E (fun z => left z && !z.sameKey (.int .i64 N)) cnt' → cnt' < cnt →
      w.grownBy w' (some r) → w'.heap.size = w.heap.size → (Instr.entry (.pointer (some ⟨r, 0, none⟩))).run Tryz.prog w' = .ok (.tuple #[.int .i64 N, .agg #[.int .i64 x.k, .int .i64 x.N, .string x.s, .slice x.a x.len x.cap]]) w' → wpList Tryz.prog ops Q rest (a.put o.dst (.tuple #[.bool true, .int .i64 N, .agg #[.int .i64 x.k, .int .i64 x.N, .string x.s, .slice x.a x.len x.cap]])) w') :
    wpList Tryz.prog ops Q (o :: rest) a w :=
  wpList_next_ranges w hg it hop 2 Tryz.keyed2 termElem (Value.int .i64) TV.val (fun key kl hkey => by obtain ⟨x, rfl, _⟩ := Maps.keyOf_int_inv Tryz.underlying2 hkey; exact ⟨x, rfl⟩) (fun v y hv => by obtain ⟨c, rfl, _⟩ := termElem_inv hv; exact ⟨c, rfl⟩)
    b r n E left cnt hit h hDone (fun x c kl y w' cnt' hkey hlk hv hat hrg hlt hgr hsz hen => by
      obtain ⟨x', ex, rfl, hwx⟩ := Maps.keyOf_int_inv Tryz.underlying2 hkey
      cases ex
      obtain ⟨c', ec, rfl⟩ := termElem_inv hv
      have ec' := TV.val_inj ec
      subst ec'
      exact hMore x c w' cnt' hlk hat hrg hlt hgr hsz hen)

set_option maxRecDepth 100000 in
set_option maxHeartbeats 1000000 in
theorem match_any {n : Nat} (p t : Tm n) (w : World) (hp : IsT w.heap.size w p) (ht : IsT w.heap.size w t) (okp : okT p = true) (okt : okT t = true) (hbig : (code p).length ≤ 4194304) (hn40 : n ≤ 549755813888) :
    Calls Tryz.prog 28 #[p.tv.val, t.tv.val] w fun e W' => ∃ (la : Option Addr) (ll lc : Nat), e = .returned (.tuple #[.slice la ll lc, .bool (matT p t []).1, .int .i64 0]) ∧ Below w.heap.size w W' ∧ ((matT p t []).1 = true → OutB (n + 1) W' (.slice la ll lc) (code p).length (insF (matT p t []).2)) := by
  have hc := checkTwo p t w hp ht
  have h0 : chkL [p, t] = 0 := chkL_yes (by simp [okp, okt])
  rw [h0] at hc
  have hcl := matT_len p t []
  have hcok := matT_ok p t [] okt (fun q hq => by cases hq)
  have hmat := fun (W : World) (hb : Below w.heap.size w W) => matches_any (D := n) (n₀ := w.heap.size) hp.lim n p t (W.alloc (.map #[] 0)) W.heap.size [] (Nat.le_refl _) (Met.made n w.heap.size W) (hp.below (hb.alloc hb.size _)) (ht.below (hb.alloc hb.size _)) hb.size okp
  obtain ⟨⟨f, c⟩, hR⟩ : ∃ R, matT p t [] = R := ⟨_, rfl⟩
  rw [hR] at hmat hcl hcok ⊢
  simp only [List.length_nil, Nat.zero_add] at hmat hcl hcok ⊢
  clear hR
  simp only [TV.val] at hmat hc ⊢
  have HMAT := hide hmat
  have HOK := hide hcok
  clear h0 okp okt hp ht hmat hcok
  go_enter Tryz.func28, Tryz.ntmps28
  go_wp2_with fail
  refine hc.mono ?_
  clear hc
  rintro e W2 ⟨rfl, hb2, bx, bby⟩
  have bx3 : BoxT (W2.alloc (.map #[] 0)) w.heap.size p.tv := bx.alloc _
  have by3 : BoxT (W2.alloc (.map #[] 0)) (w.heap.size + 1) t.tv := bby.alloc _
  have c0 := bx3.c0
  have c1 := bx3.c1
  have c2 := bx3.c2
  have c3 := bx3.c3
  have d0 := by3.c0
  have d1 := by3.c1
  have d2 := by3.c2
  have d3 := by3.c3
  clear bx bby bx3 by3
  have hmm := @run_makeMap Tryz.prog
  go_wp2_with fail
  clear hmm
  refine ((unhide HMAT) W2 hb2).mono ?_
  rintro e W4 ⟨rfl, hg4, hm4⟩
  clear HMAT c0 c1 c2 c3 d0 d1 d2 d3
  have hb4 : Below w.heap.size w W4 := (hb2.alloc hb2.size _).trans (grown_below hg4 hb2.size (by simp; have := hb2.size; omega))
  cases f with
  | false =>
    have HB4 := hide hb4
    clear hb4 hm4 hb2 hg4
    go_wp2_with fail
    exact bodyPost_ret (v := .tuple #[.slice none 0 0, .bool false, .int .i64 0]) (by simp [results, Tryz.results28, go_sem]) rfl ⟨none, 0, 0, rfl, unhide HB4, fun h => by cases h⟩
  | true =>
    have hlt4 := hm4.lt
    have hw2 : w.heap.size ≤ W2.heap.size := hb2.size
    obtain ⟨E, e1, e2, e3⟩ := hm4.map
    have hone := hm4.once
    have hsz := e1.size_le
    clear hm4 hg4 hb2
    have HB4 := hide hb4
    have HE2 := hide e2
    have HE3 := hide e3
    have HON := hide hone
    clear hb4 e2 e3 hone
    go_wp2_with (first | (at_range; refine wpList_range_own _ rfl _ 104 rfl 2 24 Tryz.keyed2 Tryz.underlying104 _ W2.heap.size c.length E rfl e1 ?_; intro w0 hrg0 hg0 hs0) | go_in)
    go_frame
    go_loopw [9] (fun o wr => ∃ (left : Lit → Bool) (cnt : Nat) (l : List (Int × TV)) (cd : List (Int × List Nd)), wr.ranges Tryz.prog 2 termElem W2.heap.size W4.heap.size c.length E left cnt ∧ MadeB (n + 1) (W4.heap.size + 1 ≤ ·) (W4.heap.size + 1) wr o l cd ∧ l.length + cnt ≤ c.length ∧ Below W2.heap.size W4 wr ∧ W4.heap.size + 1 ≤ wr.heap.size ∧
      Once cd ∧ (∀ q ∈ cd, q ∈ c ∧ left (.int .i64 q.1) = false) ∧ ∀ q ∈ c, left (.int .i64 q.1) = true ∨ q ∈ cd) (fun _ wr => wr.rangeLeft W2.heap.size W4.heap.size)
    case atStart =>
      refine ⟨_, _, [], [], hrg0, MadeB.zero _ _ _ _, by simpa using hsz, ⟨hg0.os, hg0.tape, hg0.output, hg0.size, fun k hk => hg0.block k (by omega) (by simp)⟩, by omega, List.Pairwise.nil, (fun q hq => by cases hq), fun q hq => .inl (((unhide HE2) q.1).2 ⟨q, hq, rfl⟩)⟩
    case round =>
      obtain ⟨left, cnt, l, cd, hrg, hmd, hlc, hbr, hsr, hocd, hin, hout⟩ := hrel
      have HMD := hide hmd
      have HIN := hide (And.intro hocd (And.intro hin hout))
      clear hmd hocd hin hout
      go_wp2_with (first
        | (at_next; refine next_term _ rfl _ rfl W2.heap.size W4.heap.size c.length E left cnt rfl hrg ?_ ?_)
        | go_in)
      · intro hc0 hl0
        have hsame : insF cd = insF c := insF_same (unhide HIN).1 (unhide HON) fun q => ⟨fun hq => ((unhide HIN).2.1 q hq).1, fun hq => ((unhide HIN).2.2 q hq).resolve_left (by rw [hl0]; simp)⟩
        have hso := sortBinds_any u9 l cd wr (unhide HMD) (unhide HIN).1 (by omega)
        rw [hsame] at hso
        obtain ⟨la, lc, hv, -⟩ := (unhide HMD).isL (by omega)
        have HV := hide hv
        clear hv hsame hl0 hrg HMD HIN
        go_wp2_with fail
        refine hso.mono ?_
        clear hso
        rintro e W5 ⟨rfl, hb5, ho5⟩
        have ho6 := ho5.more (k' := (code p).length) (by omega)
        rw [unhide HV] at ho6
        have HO := hide ho6
        clear ho5 ho6
        have hbf : Below w.heap.size w W5 := (unhide HB4).trans ((hbr.mono hw2).trans (hb5.mono (by have := (unhide HB4).size; omega)))
        have HBF := hide hbf
        clear hbf hb5
        go_wp2_with fail
        exact bodyPost_ret (v := .tuple #[u9, .bool true, .int .i64 0]) (by simp [results, Tryz.results28, go_sem]) rfl ⟨la, l.length, lc, by rw [unhide HV], unhide HBF, unhide HO⟩
      · intro N x w1 cnt1 hlx hat hrg1 hlt hg1 hs1 hen
        obtain ⟨q, hq, rfl⟩ := ((unhide HE2) N).1 (has_true_of_atKey hat)
        obtain ⟨x', hx1, hx2⟩ := (unhide HE3) q hq
        have hxx : x' = x := by
          have h1 := hx1 .nil
          rw [hat] at h1
          simpa using h1.symm
        subst hxx
        clear hx1 hat
        have hbr1 : Below W2.heap.size W4 w1 := hbr.trans ⟨hg1.os, hg1.tape, hg1.output, hg1.size, fun k hk => hg1.block k (by omega) (by simp; omega)⟩
        have hb5 : Below w1.heap.size w1 (w1.alloc (.cells #[.int .i64 x'.k, .int .i64 x'.N, .string x'.s, .slice x'.a x'.len x'.cap] 24)) := (Below.refl _ w1).alloc (Nat.le_refl _) _
        have hbx := BoxT.new w1 x'
        have hsz5 : (w1.alloc (.cells #[.int .i64 x'.k, .int .i64 x'.N, .string x'.s, .slice x'.a x'.len x'.cap] 24)).heap.size = w1.heap.size + 1 := by simp
        have hx1 : HoldsS n (· < w.heap.size) w1 x'.val q.2 := hx2.fromS (fun k hk _ => hbr1.block k (by omega)) hbr1.size
        have hmd1 := (unhide HMD).grown hg1 (by omega)
        obtain ⟨i0, hi, hz0, hz1, hz2⟩ := info_parts Tryz.info_bind
        have HQ := hide hq
        have HLX := hide hlx
        clear hx2 hq hlx HMD
        obtain ⟨t', ht1, ht2, -, ht4⟩ := (hx1.below hb5) n (Nat.le_refl _) (by omega)
        have hcp := copy_any t' _ ht2 (by rw [okT_code, ht4]; exact (unhide HOK) q (unhide HQ))
        rw [← ht1, ht4] at hcp
        simp only [TV.val] at hcp
        have x0 := hbx.c0
        have x1 := hbx.c1
        have x2 := hbx.c2
        have x3 := hbx.c3
        have HMD1 := hide hmd1
        clear ht1 ht2 ht4 hx1 hbx hmd1
        go_wp2_with fail
        refine hcp.mono ?_
        clear hcp
        rintro e W6 ⟨y, rfl, hb6, hy⟩
        obtain ⟨W5, hW5⟩ : ∃ W5, w1.alloc (.cells #[.int .i64 x'.k, .int .i64 x'.N, .string x'.s, .slice x'.a x'.len x'.cap] 24) = W5 := ⟨_, rfl⟩
        rw [hW5] at hb5 hsz5 hb6 hy x0 x1 x2 x3
        try rw [hW5]
        clear hW5 x0 x1 x2 x3
        have hb67 : Below W6.heap.size W6 (W6.alloc (.cells #[.int .i64 q.1, .int .i64 y.k, .int .i64 y.N, .string y.s, .slice y.a y.len y.cap] 82)) := (Below.refl _ W6).alloc (Nat.le_refl _) _
        have hb17 : Below w1.heap.size w1 (W6.alloc (.cells #[.int .i64 q.1, .int .i64 y.k, .int .i64 y.N, .string y.s, .slice y.a y.len y.cap] 82)) := (hb5.trans (hb6.mono hb5.size)).trans (hb67.mono (by have := hb5.size; have := hb6.size; omega))
        have hsz6 : w1.heap.size + 1 ≤ W6.heap.size := by have := hb6.size; omega
        have hgl : ∀ g, u9.ownBlock = some g → W4.heap.size + 1 ≤ g ∧ g < w1.heap.size := fun g hg => owns_lt (unhide HMD1).owns hg
        have hone : ∀ M, n + 1 ≤ M → M ≤ 2199023255552 → ∃ ks : List (Int × Tm M), ks.map (fun p => (p.1, p.2.tv)) = [(q.1, y)] ∧ (∀ p ∈ ks, IsT (W6.alloc (.cells #[.int .i64 q.1, .int .i64 y.k, .int .i64 y.N, .string y.s, .slice y.a y.len y.cap] 82)).heap.size (W6.alloc (.cells #[.int .i64 q.1, .int .i64 y.k, .int .i64 y.N, .string y.s, .slice y.a y.len y.cap] 82)) p.2 ∧ BlkT (fun b => u9.ownBlock ≠ some b ∧ W4.heap.size + 1 ≤ b) p.2) ∧ cb ks = [q] := fun M hM hlm => by
          obtain ⟨u, h1, h2, h3, h4⟩ := hy M hM
          have h2 := h2 hlm
          refine ⟨[(q.1, u)], by simp [← TV.val_inj (y := u.tv) h1], fun p hp => ?_, by simp [cb, h4]⟩
          simp at hp
          subst hp
          refine ⟨(h2.below hb67).mono hb67.size, h3.new.blk.mono fun b hb => ⟨fun e => ?_, ?_⟩⟩
          · have := (hgl b e).2
            have h7 : W5.heap.size ≤ b := hb
            omega
          · have h7 : W5.heap.size ≤ b := hb
            have := hbr1.size
            omega
        have hown7 := ((unhide HMD1).below hb17).owns
        have hsz1 : W4.heap.size + 1 ≤ w1.heap.size := by omega
        have HO1 := hide hone
        have HO7 := hide hown7
        have HG := hide hgl
        clear hone hown7 hgl hy hen hg1 hs1 hbr
        go_wp2_with (at_builtin; go_must (refine wpList_append_own_at _ rfl _ _ 32 rfl (W4.heap.size + 1) 82 i0 _ 5 64 Tryz.underlying32 hi hz0 hz1 hz2 rfl (by decide) u9 l.length (l.flatMap bRow) rfl (unhide HO7) ⟨W6.heap.size, 0, none⟩ 1 1 ([(q.1, y)].flatMap bRow) rfl rfl (new_bind (W5 := W6) (V := q.1) (x := y)) (bRow_one _) (by unfold maxLen; omega) (by omega) (by simp; omega) ?_; intro v' w9 hown' hgrow hnil' hbk'))
        have hmade := (unhide HMD1).next hb17 (unhide HO1) hown' hgrow hbk'
        have hne : ∀ k, k < W4.heap.size + 1 → some k ≠ u9.ownBlock := fun k hk e => by have := ((unhide HG) k e.symm).1; omega
        have hrg9 := (hrg1.kept (row := none) ⟨hb17.os, hb17.tape, hb17.output, hb17.size, fun k hk _ => hb17.block k hk⟩ (by simp) (by simp)).kept hgrow (hne _ (by omega)) (hne _ (by omega))
        have hbr9 : Below W2.heap.size W4 w9 := (hbr1.trans (hb17.mono (by omega))).trans ⟨hgrow.os, hgrow.tape, hgrow.output, hgrow.size, fun k hk => hgrow.block k (by have := hb17.size; omega) (hne k (by omega))⟩
        have hsz9 : W4.heap.size + 1 ≤ w9.heap.size := by have := hgrow.size; have := hb17.size; omega
        have HMA := hide hmade
        have HRG := hide hrg9
        clear hmade hrg9 hown' hgrow hnil' hbk' hne hb17 hb67 hb6 hb5
        go_wp2_with fail
        go_roundw
        case rel =>
          obtain ⟨hocd, hin, hout⟩ := unhide HIN
          refine ⟨_, cnt1, _, _, unhide HRG, unhide HMA, by simp; omega, hbr9, hsz9, ?_, ?_, ?_⟩
          · unfold Once
            rw [List.pairwise_append]
            refine ⟨hocd, by simp, fun a ha b hb => ?_⟩
            simp at hb; subst hb
            intro e
            have := (hin a ha).2
            rw [e, unhide HLX] at this
            cases this
          · intro a ha
            rcases List.mem_append.1 ha with ha | ha
            · exact ⟨(hin a ha).1, by rw [(hin a ha).2]; rfl⟩
            · simp at ha; subst ha
              refine ⟨unhide HQ, ?_⟩
              rw [WideAt.sameKey_self (by trivial)]
              simp
          · intro a ha
            by_cases e : a.1 = q.1
            · exact .inr (by rw [Once.eq (unhide HON) ha (unhide HQ) e]; simp)
            · rcases hout a ha with h1 | h1
              · refine .inl ?_
                rw [h1, Maps.sameKey_ne (by simpa using e)]
                rfl
              · exact .inr (List.mem_append_left _ h1)
        case measure => rw [(unhide HRG).left_eq, hrg.left_eq]; omega
end Go.Proofs.YtojefplapklbmaaGreatDoor

/- Contracts by codes alone (no storeys): Apply, Compose, Match, Same, SameBinds. -/
namespace Go.Proofs.YtojefplapklbmaaGreatDoor
open Go.RowKit Go.Shelf Go.Maps

/-- v is a list of binds of the codes c, at most k. -/
def LV (D : Nat) (W : World) (v : Value) (k : Nat) (c : List (Int × List Nd)) : Prop := ∃ a len cap l, v = .slice a len cap ∧ SrcB D W a len l c ∧ len ≤ k
/-- v is a term of the code c. -/
def TC (D : Nat) (W : World) (v : Value) (c : List Nd) : Prop := D ≤ 2199023255552 ∧ HoldsS D (fun _ => True) W v c
theorem LV.below {D : Nat} {W W' : World} {v : Value} {k : Nat} {c : List (Int × List Nd)} (h : LV D W v k c) (hb : Below W.heap.size W W') : LV D W' v k c := by
  obtain ⟨a, len, cap, l, h1, h2, h3⟩ := h
  exact ⟨a, len, cap, l, h1, h2.below hb, h3⟩
theorem LV.mono {D D' : Nat} {W : World} {v : Value} {k : Nat} {c : List (Int × List Nd)} (h : LV D W v k c) (hD : D ≤ D') (hDl : D' ≤ 2199023255552 := by omega) : LV D' W v k c := by
  obtain ⟨a, len, cap, l, h1, h2, h3⟩ := h
  exact ⟨a, len, cap, l, h1, ⟨hDl, fun M hM => h2.2 M (by omega)⟩, h3⟩
theorem TC.mono {D D' : Nat} {W : World} {v : Value} {c : List Nd} (h : TC D W v c) (hD : D ≤ D') (hDl : D' ≤ 2199023255552 := by omega) : TC D' W v c := ⟨hDl, HoldsS.mono h.2 hD (fun _ h => h)⟩
theorem TC.below {D : Nat} {W W' : World} {v : Value} {c : List Nd} (h : TC D W v c) (hb : Below W.heap.size W W') : TC D W' v c := ⟨h.1, HoldsS.below h.2 hb⟩
theorem HoldsS.tc {D : Nat} {S : Nat → Prop} {W : World} {v : Value} {c : List Nd} (h : HoldsS D S W v c) (hDl : D ≤ 2199023255552 := by omega) : TC D W v c := ⟨hDl, HoldsS.mono h (Nat.le_refl _) (fun _ _ => trivial)⟩
theorem OutB.lv {D : Nat} {W : World} {v : Value} {k : Nat} {c : List (Int × List Nd)} (h : OutB D W v k c) : LV D W v k c := by
  obtain ⟨a, len, cap, l, h1, h2, h3, _⟩ := h
  exact ⟨a, len, cap, l, h1, h2, h3⟩
theorem tc_of {n : Nat} {t : Tm n} {W : World} (hT : IsT W.heap.size W t) : TC n W t.tv.val (code t) := (holdsS_of hT hT.blk).tc hT.lim
theorem isL_lift {n₀ : Nat} {W : World} {n : Nat} {a : Option Addr} {len : Nat} {bs : List (Int × Tm n)} (h : IsL n₀ W a len bs) (hl : n + 1 ≤ 2199023255552) : IsL n₀ W a len (bs.map fun p => (p.1, p.2.lift)) := by
  obtain ⟨h1, h2, h3⟩ := h
  refine ⟨by simpa using h1, h2, ?_⟩
  rcases h3 with h3 | ⟨b, off, ha, hb, hk⟩
  · exact .inl (by simp [h3])
  · refine .inr ⟨b, off, ha, hb, fun j p hp => ?_⟩
    rw [List.getElem?_map] at hp
    cases hq : bs[j]? with
    | none => rw [hq] at hp; simp at hp
    | some q =>
      rw [hq] at hp
      simp at hp
      subst hp
      obtain ⟨k1, k2, k3⟩ := hk j q hq
      exact ⟨k1, by simpa [lift_tv] using k2, lift_isT k3 hl⟩
theorem srcB_of {n : Nat} {W : World} {a : Option Addr} {len : Nat} {bs : List (Int × Tm n)} (h : IsL W.heap.size W a len bs) (hDl : n ≤ 2199023255552 := by omega) : SrcB n W a len (bs.map fun p => (p.1, p.2.tv)) (cb bs) := ⟨hDl, fun M hM hlm => by
  obtain ⟨k, rfl⟩ : ∃ k, M = n + k := ⟨M - n, by omega⟩
  clear hM
  induction k with
  | zero => exact ⟨bs, h, rfl, rfl⟩
  | succ k ih =>
    obtain ⟨ks, k1, k2, k3⟩ := ih (by omega)
    refine ⟨ks.map fun p => (p.1, p.2.lift), isL_lift k1 (by omega), ?_, ?_⟩
    · rw [← k2]; simp [cb, lift_code]
    · rw [← k3]; simp [lift_tv]⟩
theorem lv_of {n : Nat} {W : World} {a : Option Addr} {len cap : Nat} {bs : List (Int × Tm n)} (h : IsL W.heap.size W a len bs) (hDl : n ≤ 2199023255552 := by omega) : LV n W (.slice a len cap) len (cb bs) := ⟨a, len, cap, _, rfl, srcB_of h hDl, Nat.le_refl _⟩

/-- All parts are well made. -/
def okC (c : List Nd) : Prop := c.all okNd = true
/-- Binds that are a substitution, by their codes. -/
structure SubC (c : List (Int × List Nd)) : Prop where
  ok : ∀ p ∈ c, okC p.2
  key : ∀ p ∈ c, 0 ≤ p.1 ∧ p.1 ≤ 1099511627776
  rise : c.Pairwise fun p q => p.1 < q.1
theorem SubC.once {c : List (Int × List Nd)} (h : SubC c) : Once c := h.rise.imp fun h => by omega
theorem rises_pairwise {n : Nat} {bs : List (Int × Tm n)} : Rises bs ↔ (cb bs).Pairwise fun p q => p.1 < q.1 := by
  unfold Rises cb
  rw [List.pairwise_map, List.pairwise_iff_getElem]
  constructor
  · intro h i j hi hj hij
    exact h i j _ _ (List.getElem?_eq_getElem hi) (List.getElem?_eq_getElem hj) hij
  · intro h i j p q hp hq hij
    obtain ⟨hi, rfl⟩ := List.getElem?_eq_some_iff.1 hp
    obtain ⟨hj, rfl⟩ := List.getElem?_eq_some_iff.1 hq
    exact h i j hi hj hij
theorem cb_all {n : Nat} {bs : List (Int × Tm n)} {P : Int → List Nd → Prop} : (∀ p ∈ cb bs, P p.1 p.2) ↔ ∀ p ∈ bs, P p.1 (code p.2) := by
  unfold cb
  constructor
  · intro h p hp
    exact h (p.1, code p.2) (List.mem_map.2 ⟨p, hp, rfl⟩)
  · intro h p hp
    obtain ⟨q, hq, rfl⟩ := List.mem_map.1 hp
    exact h q hq
theorem subC_iff {n : Nat} {bs : List (Int × Tm n)} : SubC (cb bs) ↔ (∀ p ∈ bs, okT p.2 = true) ∧ Subst bs := by
  constructor
  · intro h
    refine ⟨fun p hp => ?_, ?_, rises_pairwise.2 h.rise⟩
    · rw [okT_code]; exact (cb_all (P := fun _ c => okC c)).1 h.ok p hp
    · exact (cb_all (P := fun N _ => 0 ≤ N ∧ N ≤ 1099511627776)).1 h.key
  · rintro ⟨h1, h2, h3⟩
    refine ⟨(cb_all (P := fun _ c => okC c)).2 fun p hp => ?_, (cb_all (P := fun N _ => 0 ≤ N ∧ N ≤ 1099511627776)).2 h2, rises_pairwise.1 h3⟩
    unfold okC
    rw [← okT_code]; exact h1 p hp

theorem apply_c {D : Nat} {W : World} {v lv : Value} {c : List Nd} {k : Nat} {cl : List (Int × List Nd)} (hv : TC D W v c) (hl : LV D W lv k cl) (hok : okC c) (hs : SubC cl) (hD39 : D ≤ 549755813888 := by omega) :
    Calls Tryz.prog 17 #[v, lv] W fun e W' => ∃ x : TV, e = .returned (.tuple #[x.val, .int .i64 0]) ∧ Below W.heap.size W W' ∧ TC (D + (D + 1)) W' x.val (c.flatMap (subN (lookC cl))) := by
  obtain ⟨t, rfl, hT, _, rfl⟩ := hv.2 D (Nat.le_refl _) hv.1
  obtain ⟨a, len, cap, l, rfl, hsrc, _⟩ := hl
  obtain ⟨bs, hL, rfl, _⟩ := hsrc.2 D (Nat.le_refl _) hsrc.1
  obtain ⟨h1, h2⟩ := subC_iff.1 hs
  refine (apply_ok t bs a len cap W hT hL (by rw [okT_code]; exact hok) h1 h2).mono fun e W' h => ?_
  obtain ⟨x, e1, e2, e3⟩ := h
  exact ⟨x, e1, e2, e3.holdsS.tc⟩
theorem compose_c {D : Nat} {W : World} {v v' : Value} {k k' : Nat} {c c' : List (Int × List Nd)} (h : LV D W v k c) (h' : LV D W v' k' c') (hs : SubC c) (hs' : SubC c') (hk : k + k' ≤ 4194304) (hD39 : D ≤ 549755813888 := by omega) :
    Calls Tryz.prog 69 #[v, v'] W fun e W' => ∃ (la : Option Addr) (ll lc : Nat), e = .returned (.tuple #[.slice la ll lc, .int .i64 0]) ∧ Below W.heap.size W W' ∧ LV (D + (D + 1)) W' (.slice la ll lc) (k + k') (insF (madeC c c')) := by
  obtain ⟨a, len, cap, l, rfl, hsrc, hle⟩ := h
  obtain ⟨bs, hL, rfl, _⟩ := hsrc.2 D (Nat.le_refl _) hsrc.1
  obtain ⟨a', len', cap', l', rfl, hsrc', hle'⟩ := h'
  obtain ⟨bs', hL', rfl, _⟩ := hsrc'.2 D (Nat.le_refl _) hsrc'.1
  obtain ⟨h1, h2⟩ := subC_iff.1 hs
  obtain ⟨h1', h2'⟩ := subC_iff.1 hs'
  refine (compose_ok bs bs' a a' len cap len' cap' W hL hL' h1 h1' h2 h2' (by omega) hD39).mono fun e W' h => ?_
  obtain ⟨u, e1, e2, e3⟩ := h
  have e4 := (e3.more (k' := k + k') (by omega)).lv
  have e5 := e4
  obtain ⟨la, ll, lc, _, rfl, _⟩ := e5
  exact ⟨la, ll, lc, e1, e2, e4⟩
theorem same_c {D : Nat} {W : World} {v v' : Value} {c c' : List Nd} (h : TC D W v c) (h' : TC D W v' c') :
    Calls Tryz.prog 41 #[v, v'] W fun e W' => e = .returned (.bool (decide (c = c'))) ∧ Below W.heap.size W W' := by
  obtain ⟨t, rfl, hT, _, rfl⟩ := h.2 D (Nat.le_refl _) h.1
  obtain ⟨t', rfl, hT', _, rfl⟩ := h'.2 D (Nat.le_refl _) h'.1
  have := same_any D t t' W hT hT'
  rw [sameT_code hT.wl hT'.wl] at this
  exact this
theorem sameBinds_c {D : Nat} {W : World} {v v' : Value} {k k' : Nat} {c c' : List (Int × List Nd)} (h : LV D W v k c) (h' : LV D W v' k' c') (he : c = c') :
    Calls Tryz.prog 49 #[v, v'] W fun e W' => e = .returned (.bool true) ∧ Below W.heap.size W W' := by
  obtain ⟨a, len, cap, l, rfl, hsrc, _⟩ := h
  obtain ⟨bs, hL, rfl, _⟩ := hsrc.2 D (Nat.le_refl _) hsrc.1
  obtain ⟨a', len', cap', l', rfl, hsrc', _⟩ := h'
  obtain ⟨bs', hL', rfl, _⟩ := hsrc'.2 D (Nat.le_refl _) hsrc'.1
  have h := sameBinds_any bs bs' a a' len len' cap cap' W hL hL'
  have hs : sameBs bs bs' = true := (sameBs_code bs bs' (fun p hp => (isL_mem hL p hp).wl) (fun p hp => (isL_mem hL' p hp).wl)).2 he
  rw [hs] at h
  exact h
end Go.Proofs.YtojefplapklbmaaGreatDoor

/- Plain mathematics of substitutions by codes: composing does what the two do, and may be done in any order. -/
namespace Go.Proofs.YtojefplapklbmaaGreatDoor
open Go.RowKit Go.Shelf Go.Maps

theorem look_mem {c : List (Int × List Nd)} (h : Once c) {q : Int × List Nd} (hq : q ∈ c) : lookC c q.1 = q.2 := by
  unfold lookC
  cases hf : c.find? (fun p => p.1 == q.1) with
  | none => exact ((List.find?_eq_none.1 hf) q hq (by simp)).elim
  | some p =>
    have h1 := List.mem_of_find?_eq_some hf
    have h2 : p.1 = q.1 := by simpa using List.find?_some hf
    rw [Once.eq h h1 hq h2]
theorem look_no {c : List (Int × List Nd)} {N : Int} (h : ∀ q ∈ c, q.1 ≠ N) : lookC c N = [varNd N] := find_nil h
theorem look_or (c : List (Int × List Nd)) (N : Int) : (∃ q ∈ c, q.1 = N) ∨ ∀ q ∈ c, q.1 ≠ N := by
  by_cases h : ∃ q ∈ c, q.1 = N
  · exact .inl h
  · exact .inr fun q hq e => h ⟨q, hq, e⟩

/-- What one substitution behind another does to a variable. -/
def compN (cs cu : List (Int × List Nd)) (N : Int) : List Nd := (lookC cs N).flatMap (subN (lookC cu))
theorem sub_congr {σ τ : Int → List Nd} (h : ∀ N, σ N = τ N) (c : List Nd) : c.flatMap (subN σ) = c.flatMap (subN τ) := by
  rw [show σ = τ from funext h]

theorem mem_addS {cs cu : List (Int × List Nd)} : ∀ (l acc : List (Int × List Nd)) (q : Int × List Nd), q ∈ l.foldl (addS cu) acc ↔ q ∈ acc ∨ ∃ p ∈ l, q.1 = p.1 ∧ q.2 = p.2.flatMap (subN (lookC cu)) ∧ q.2 ≠ [varNd q.1]
  | [], acc, q => by simp
  | p :: l, acc, q => by
    rw [List.foldl_cons, mem_addS (cs := cs) l]
    unfold addS addC
    by_cases h : p.2.flatMap (subN (lookC cu)) = [varNd p.1]
    · rw [if_pos h]
      constructor
      · rintro (h1 | ⟨r, h1, h2⟩)
        · exact .inl h1
        · exact .inr ⟨r, by simp [h1], h2⟩
      · rintro (h1 | ⟨r, h1, h2, h3, h4⟩)
        · exact .inl h1
        · rcases List.mem_cons.1 h1 with rfl | h1
          · exact (h4 (by rw [h3, h, h2])).elim
          · exact .inr ⟨r, h1, h2, h3, h4⟩
    · rw [if_neg h]
      constructor
      · rintro (h1 | ⟨r, h1, h2⟩)
        · rcases List.mem_append.1 h1 with h1 | h1
          · exact .inl h1
          · simp at h1; subst h1
            exact .inr ⟨p, by simp, rfl, rfl, h⟩
        · exact .inr ⟨r, by simp [h1], h2⟩
      · rintro (h1 | ⟨r, h1, h2, h3, h4⟩)
        · exact .inl (List.mem_append_left _ h1)
        · rcases List.mem_cons.1 h1 with rfl | h1
          · exact .inl (List.mem_append_right _ (by simp; exact Prod.ext h2 h3))
          · exact .inr ⟨r, h1, h2, h3, h4⟩
theorem mem_addU {cs : List (Int × List Nd)} : ∀ (l acc : List (Int × List Nd)) (q : Int × List Nd), q ∈ l.foldl (addU cs) acc ↔ q ∈ acc ∨ (q ∈ l ∧ (¬ ∃ p ∈ cs, p.1 = q.1) ∧ q.2 ≠ [varNd q.1])
  | [], acc, q => by simp
  | p :: l, acc, q => by
    rw [List.foldl_cons, mem_addU l]
    unfold addU
    by_cases h0 : ∃ r ∈ cs, r.1 = p.1
    · rw [if_pos h0]
      constructor
      · rintro (h1 | ⟨h1, h2⟩)
        · exact .inl h1
        · exact .inr ⟨by simp [h1], h2⟩
      · rintro (h1 | ⟨h1, h2, h3⟩)
        · exact .inl h1
        · rcases List.mem_cons.1 h1 with rfl | h1
          · exact (h2 h0).elim
          · exact .inr ⟨h1, h2, h3⟩
    · rw [if_neg h0]
      unfold addC
      by_cases h : p.2 = [varNd p.1]
      · rw [if_pos h]
        constructor
        · rintro (h1 | ⟨h1, h2⟩)
          · exact .inl h1
          · exact .inr ⟨by simp [h1], h2⟩
        · rintro (h1 | ⟨h1, h2, h3⟩)
          · exact .inl h1
          · rcases List.mem_cons.1 h1 with rfl | h1
            · exact (h3 h).elim
            · exact .inr ⟨h1, h2, h3⟩
      · rw [if_neg h]
        constructor
        · rintro (h1 | ⟨h1, h2⟩)
          · rcases List.mem_append.1 h1 with h1 | h1
            · exact .inl h1
            · simp at h1; subst h1
              exact .inr ⟨by simp, h0, h⟩
          · exact .inr ⟨by simp [h1], h2⟩
        · rintro (h1 | ⟨h1, h2, h3⟩)
          · exact .inl (List.mem_append_left _ h1)
          · rcases List.mem_cons.1 h1 with rfl | h1
            · exact .inl (List.mem_append_right _ (by simp))
            · exact .inr ⟨h1, h2, h3⟩

/-- Composing's members: just what does something. -/
theorem mem_made {cs cu : List (Int × List Nd)} (hs : Once cs) (hu : Once cu) (q : Int × List Nd) : q ∈ madeC cs cu ↔ q.2 = compN cs cu q.1 ∧ q.2 ≠ [varNd q.1] := by
  unfold madeC
  rw [mem_addU, mem_addS (cs := cs)]
  simp only [List.not_mem_nil, false_or]
  unfold compN
  constructor
  · rintro (⟨p, h1, h2, h3, h4⟩ | ⟨h1, h2, h3⟩)
    · exact ⟨by rw [h2, look_mem hs h1, h3], h4⟩
    · refine ⟨?_, h3⟩
      rw [look_no (fun r hr e => h2 ⟨r, hr, e⟩), sub_varNd, look_mem hu h1]
  · rintro ⟨h1, h2⟩
    rcases look_or cs q.1 with ⟨p, hp, e⟩ | hno
    · refine .inl ⟨p, hp, e.symm, ?_, h2⟩
      rw [h1, ← e, look_mem hs hp]
    · rw [look_no hno, sub_varNd] at h1
      rcases look_or cu q.1 with ⟨p, hp, e⟩ | hno'
      · refine .inr ⟨?_, fun ⟨r, hr, e⟩ => hno r hr e, h2⟩
        rw [← e, look_mem hu hp] at h1
        have : q = p := Prod.ext e.symm h1
        rw [this]; exact hp
      · rw [look_no hno'] at h1
        exact (h2 h1).elim
/-- What is composed does what the two do. -/
theorem look_made {cs cu : List (Int × List Nd)} (hs : Once cs) (hu : Once cu) (N : Int) : lookC (insF (madeC cs cu)) N = compN cs cu N := by
  have ho := insF_once (madeC_once hs hu)
  by_cases h : compN cs cu N = [varNd N]
  · rw [h]
    refine look_no fun q hq e => ?_
    obtain ⟨h1, h2⟩ := (mem_made hs hu q).1 (insF_mem.1 hq)
    rw [e] at h1 h2
    exact h2 (h1.trans h)
  · have hm : (N, compN cs cu N) ∈ insF (madeC cs cu) := insF_mem.2 ((mem_made hs hu _).2 ⟨rfl, h⟩)
    exact look_mem ho hm
/-- Composing may be done in any order. -/
theorem made_assoc {cs cu cv : List (Int × List Nd)} (hs : Once cs) (hu : Once cu) (hv : Once cv) : insF (madeC (insF (madeC cs cu)) cv) = insF (madeC cs (insF (madeC cu cv))) := by
  have h1 := insF_once (madeC_once hs hu)
  have h2 := insF_once (madeC_once hu hv)
  refine insF_same (madeC_once h1 hv) (madeC_once hs h2) fun q => ?_
  rw [mem_made h1 hv, mem_made hs h2]
  have : compN (insF (madeC cs cu)) cv q.1 = compN cs (insF (madeC cu cv)) q.1 := by
    unfold compN
    rw [look_made hs hu, sub_congr (look_made hu hv)]
    unfold compN
    exact sub_sub _ _ _
  rw [this]

theorem okC_look {c : List (Int × List Nd)} (h : ∀ p ∈ c, okC p.2) {N : Int} (h0 : 0 ≤ N) (h1 : N ≤ 1099511627776) : okC (lookC c N) := by
  unfold lookC
  split
  · rename_i p hp
    exact h p (List.mem_of_find?_eq_some hp)
  · simp [okC, okNd, varNd, h0, h1]
theorem okNd_var {x : Nd} (h : okNd x = true) (hk : x.1 = 1) : (0 ≤ x.2.1 ∧ x.2.1 ≤ 1099511627776) ∧ x = varNd x.2.1 := by
  obtain ⟨k, N, s, len⟩ := x
  simp only at hk
  subst hk
  simp [okNd] at h
  obtain ⟨⟨⟨h1, h2⟩, h3⟩, h4⟩ := h
  exact ⟨⟨h1, h2⟩, by simp [varNd, h3, h4]⟩
theorem okC_sub {σ : Int → List Nd} (hσ : ∀ N, 0 ≤ N → N ≤ 1099511627776 → okC (σ N)) {c : List Nd} (h : okC c) : okC (c.flatMap (subN σ)) := by
  unfold okC at *
  rw [List.all_eq_true] at h ⊢
  intro y hy
  obtain ⟨x, hx, hxy⟩ := List.mem_flatMap.1 hy
  have hok := h x hx
  unfold subN at hxy
  split at hxy
  · rename_i hk
    obtain ⟨⟨h0, h1⟩, _⟩ := okNd_var hok hk
    exact List.all_eq_true.1 (hσ _ h0 h1) y hxy
  · simp at hxy; subst hxy; exact hok
theorem once_rise {c : List (Int × List Nd)} (h : Once c) (hu : Up c) : c.Pairwise fun p q => p.1 < q.1 :=
  (h.and hu).imp fun ⟨h1, h2⟩ => by omega
theorem subC_made {cs cu : List (Int × List Nd)} (hs : SubC cs) (hu : SubC cu) : SubC (insF (madeC cs cu)) := by
  have ho := madeC_once hs.once hu.once
  have hkey : ∀ q ∈ insF (madeC cs cu), 0 ≤ q.1 ∧ q.1 ≤ 1099511627776 := fun q hq => by
    obtain ⟨h1, h2⟩ := (mem_made hs.once hu.once q).1 (insF_mem.1 hq)
    rcases look_or cs q.1 with ⟨p, hp, e⟩ | hno
    · rw [← e]; exact hs.key p hp
    · rcases look_or cu q.1 with ⟨p, hp, e⟩ | hno'
      · rw [← e]; exact hu.key p hp
      · unfold compN at h1
        rw [look_no hno, sub_varNd, look_no hno'] at h1
        exact (h2 h1).elim
  refine ⟨fun q hq => ?_, hkey, once_rise (insF_once ho) (insF_up _)⟩
  obtain ⟨h1, _⟩ := (mem_made hs.once hu.once q).1 (insF_mem.1 hq)
  obtain ⟨k0, k1⟩ := hkey q hq
  rw [h1]
  exact okC_sub (fun N h0 h1 => okC_look hu.ok h0 h1) (okC_look hs.ok k0 k1)
end Go.Proofs.YtojefplapklbmaaGreatDoor

