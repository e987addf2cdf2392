import Derived.Test.YtiigkiemkhdclaaGreatDoorAcs
import Derived.Test.YtiigkiemkhdclaaGreatDoorEs
import Derived.Test.YtiigkiemkhdclaaGreatDoorQs
import Derived.Test.YtiigkiemkhdclaaGreatDoorMps
/- The contract of term.Match by codes. -/
namespace Go.Proofs.YtiigkiemkhdclaaGreatDoor
open Go.RowKit Go.Shelf Go.Maps

/-- What holds of the map from the beginning, and goes on when a variable of p that is new gets a part of t. -/
theorem matL_inv {n : Nat} {P : List (Int × List Nd) → Prop} (hf : ∀ (p t : Tm n) (c : List (Int × List Nd)), okT p = true → Wl t → okT t = true → P c → P (matT p t c).2) : ∀ (ps ts : List (Tm n)) (c : List (Int × List Nd)), (∀ u ∈ ps, okT u = true) → (∀ u ∈ ts, Wl u) → (∀ u ∈ ts, okT u = true) → P c → P (matL matT ps ts c).2
  | [], _, c, _, _, _, h => by simpa [matL] using h
  | p :: ps, [], c, _, _, _, h => by simpa [matL] using h
  | p :: ps, t :: ts, c, hp, hw, ht, h => by
    have h1 := hf p t c (hp p (by simp)) (hw t (by simp)) (ht t (by simp)) h
    simp only [matL]
    split
    · exact matL_inv hf ps ts _ (fun u hu => hp u (by simp [hu])) (fun u hu => hw u (by simp [hu])) (fun u hu => ht u (by simp [hu])) h1
    · exact h1
theorem matT_inv {P : List (Int × List Nd) → Prop} (hV : ∀ (N : Int) (ct : List Nd) (c : List (Int × List Nd)), P c → (0 ≤ N ∧ N ≤ 1099511627776) → okC ct → Word ct → (¬ ∃ q ∈ c, q.1 = N) → P (c ++ [(N, ct)])) : ∀ {n : Nat} (p t : Tm n) (c : List (Int × List Nd)), okT p = true → Wl t → okT t = true → P c → P (matT p t c).2
  | 0, p, _, _, _, _, _, _ => Empty.elim p
  | n + 1, p, t, c, ho, hw, ht, h => by
    by_cases hk : p.tv.k = 1
    · rw [matT_var hk]
      unfold matV
      by_cases hq : ∃ q ∈ c, q.1 = p.tv.N
      · obtain ⟨q, hf, _⟩ := find_key hq
        rw [hf]; exact h
      · rw [find_no hq]
        have h2 : okNd p.tv.nd = true := by
          rw [okT_code, code_kids] at ho
          simp only [List.all_cons, Bool.and_eq_true] at ho
          exact ho.1
        exact hV _ _ _ h (okNd_var h2 hk).1 (by unfold okC; rw [← okT_code]; exact ht) (word_code t hw) hq
    · by_cases hs : stop p.tv t.tv = true
      · rw [matT_same hk hs]
        exact matL_inv (fun p t c h1 h2 h3 h4 => matT_inv hV (n := n) p t c h1 h2 h3 h4) p.kids t.kids c (ok_kids' ho) hw.2 (ok_kids' ht) h
      · rw [matT_else hk hs]; exact h
/-- The map of a match: a substitution. -/
structure MapC (c : List (Int × List Nd)) : Prop where
  once : Once c
  key : ∀ q ∈ c, 0 ≤ q.1 ∧ q.1 ≤ 1099511627776
  ok : ∀ q ∈ c, okC q.2
  word : ∀ q ∈ c, Word q.2
theorem mapC_mat {n : Nat} {p t : Tm n} (ho : okT p = true) (hw : Wl t) (ht : okT t = true) : MapC (matT p t []).2 := by
  refine matT_inv (P := MapC) (fun N ct c h hN hok hwd hno => ?_) p t [] ho hw ht ⟨List.Pairwise.nil, (fun q hq => by cases hq), (fun q hq => by cases hq), (fun q hq => by cases hq)⟩
  refine ⟨?_, fun q hq => ?_, fun q hq => ?_, fun q hq => ?_⟩
  · unfold Once
    rw [List.pairwise_append]
    refine ⟨h.once, by simp, fun a ha b hb => ?_⟩
    simp at hb; subst hb
    exact fun e => hno ⟨a, ha, e⟩
  · rcases List.mem_append.1 hq with hq | hq
    · exact h.key q hq
    · simp at hq; subst hq; exact hN
  · rcases List.mem_append.1 hq with hq | hq
    · exact h.ok q hq
    · simp at hq; subst hq; exact hok
  · rcases List.mem_append.1 hq with hq | hq
    · exact h.word q hq
    · simp at hq; subst hq; exact hwd
theorem look_insF {c : List (Int × List Nd)} (h : Once c) (N : Int) : lookC (insF c) N = lookC c N := by
  rcases look_or c N with ⟨q, hq, rfl⟩ | hno
  · rw [look_mem h hq, look_mem (insF_once h) (insF_mem.2 hq)]
  · rw [look_no hno, look_no fun q hq => hno q (insF_mem.1 hq)]
theorem MapC.sub {c : List (Int × List Nd)} (h : MapC c) : SubC (insF c) :=
  ⟨fun q hq => h.ok q (insF_mem.1 hq), fun q hq => h.key q (insF_mem.1 hq), once_rise (insF_once h.once) (insF_up _)⟩

/-- There is a substitution that makes the one the other. -/
def Matches (c c' : List Nd) : Prop := ∃ σ : Int → List Nd, (∀ N, Word (σ N)) ∧ c.flatMap (subN σ) = c'
theorem match_c {D : Nat} {W : World} {v v' : Value} {c c' : List Nd} (h : TC D W v c) (h' : TC D W v' c') (ho : okC c) (ho' : okC c') (hbig : c.length ≤ 4194304) :
    Calls Tryz.prog 28 #[v, v'] W fun e W' => ∃ (la : Option Addr) (ll lc : Nat) (f : Bool), e = .returned (.tuple #[.slice la ll lc, .bool f, .int .i64 0]) ∧ Below W.heap.size W W' ∧ (f = true ↔ Matches c c') ∧ (f = true → ∃ cm, LV (D + 1) W' (.slice la ll lc) c.length cm ∧ SubC cm ∧ c.flatMap (subN (lookC cm)) = c') := by
  obtain ⟨p, rfl, hp, _, rfl⟩ := h D (Nat.le_refl _)
  obtain ⟨t, rfl, ht, _, rfl⟩ := h' D (Nat.le_refl _)
  have op : okT p = true := by rw [okT_code]; exact ho
  have ot : okT t = true := by rw [okT_code]; exact ho'
  have hm := mapC_mat op ht.wl ot
  have hfit : Fits (lookC (matT p t []).2) (matT p t []).2 := fun q hq => look_mem hm.once hq
  refine (match_any p t W hp ht op ot hbig).mono fun e W' hh => ?_
  obtain ⟨la, ll, lc, e1, e2, e3⟩ := hh
  refine ⟨la, ll, lc, _, e1, e2, ⟨fun h => ⟨_, word_look hm.word, matT_sound p t [] _ hp.wl op h hfit ht.wl⟩, fun ⟨σ, h1, h2⟩ => (matT_full h1 p t [] hp.wl op ht.wl (fun q hq => by cases hq) h2).1⟩, fun h => ⟨_, (e3 h).lv, hm.sub, ?_⟩⟩
  rw [sub_congr (look_insF hm.once)]
  exact matT_sound p t [] _ hp.wl op h hfit ht.wl
end Go.Proofs.YtiigkiemkhdclaaGreatDoor

/- The contract of term.replace with a function that keeps a state of its own (a counter, a map): its blocks alone (X) may change. -/
namespace Go.Proofs.YtiigkiemkhdclaaGreatDoor
open Go.RowKit Go.Shelf

/-- Of what lies below B only blocks in X may have changed. -/
structure GrB (X : Nat → Prop) (B : Nat) (A W : World) : Prop where
  os : W.os = A.os
  tape : W.tape = A.tape
  output : W.output = A.output
  size : A.heap.size ≤ W.heap.size
  block : ∀ k, k < B → ¬ X k → W.heap[k]? = A.heap[k]?
theorem GrB.of_below {X : Nat → Prop} {B : Nat} {A W : World} (h : Below B A W) : GrB X B A W := ⟨h.os, h.tape, h.output, h.size, fun k hk _ => h.block k hk⟩
theorem GrB.refl (X : Nat → Prop) (B : Nat) (A : World) : GrB X B A A := GrB.of_below (Below.refl _ _)
theorem GrB.trans {X : Nat → Prop} {B : Nat} {A W W' : World} (h : GrB X B A W) (k : GrB X B W W') : GrB X B A W' :=
  ⟨k.os.trans h.os, k.tape.trans h.tape, k.output.trans h.output, Nat.le_trans h.size k.size, fun i hi hx => (k.block i hi hx).trans (h.block i hi hx)⟩
theorem GrB.mono {X : Nat → Prop} {B B' : Nat} {A W : World} (h : GrB X B A W) (hB : B' ≤ B) : GrB X B' A W := ⟨h.os, h.tape, h.output, h.size, fun k hk => h.block k (Nat.lt_of_lt_of_le hk hB)⟩
theorem GrB.below {X : Nat → Prop} {B n₀ : Nat} {A W : World} (h : GrB X B A W) (hX : ∀ k, X k → n₀ ≤ k) (hB : n₀ ≤ B) : Below n₀ A W :=
  ⟨h.os, h.tape, h.output, h.size, fun k hk => h.block k (by omega) (fun hx => by have := hX k hx; omega)⟩
theorem GrB.set4 {X : Nat → Prop} {B : Nat} {A W : World} (h : GrB X B A W) {b : Nat} (hb : B ≤ b) (o : Nat) (x : TV) : GrB X B A (set4 W b o x) :=
  h.trans (GrB.of_below (set4_below (Below.refl _ _) hb o x))
theorem GrB.cell {X : Nat → Prop} {B : Nat} {A W : World} (h : GrB X B A W) {k o : Nat} (hk : k < B) (hx : ¬ X k) : W.cell? ⟨k, o, none⟩ = A.cell? ⟨k, o, none⟩ := World.cell?_of_block (a := ⟨k, o, none⟩) (h.block k hk hx)

theorem IsT.grb {X : Nat → Prop} {lo : Nat} {A W : World} (h : GrB X A.heap.size A W) (hX : ∀ k, X k → k < lo) {n : Nat} {t : Tm n} (hT : IsT A.heap.size A t) (hN : NewT lo t) : IsT W.heap.size W t :=
  (hT.fromS (S := fun b => lo ≤ b ∧ b < A.heap.size) (fun b hb => h.block b hb.2 (fun hx => by have := hX b hx; have := hb.1; omega)) (hN.blk.and hT.blk)).mono h.size
theorem HoldsT.grb {X : Nat → Prop} {D lo : Nat} {A W : World} {v : Value} {c : List Nd} (h : HoldsT D lo A v c) (hg : GrB X A.heap.size A W) (hX : ∀ k, X k → k < lo) : HoldsT D lo W v c := fun m hm => by
  obtain ⟨t, h1, h2, h3, h4⟩ := h m hm
  exact ⟨t, h1, h2.grb hg hX h3, h3, h4⟩
theorem Written.nextX {X : Nat → Prop} {D B j : Nat} {W W5 : World} {c c' : List Nd} {len : Nat} {x : TV} (h : Written D B j W c) (hj : j < len) (hr : Row4 W5 B len) (hb : GrB X W.heap.size W W5) (hX : ∀ k, X k → k < B) (hB : B < W.heap.size) (hv : HoldsT D (B + 1) W5 x.val c') :
    Written D B (j + 1) (Proofs.YtiigkiemkhdclaaGreatDoor.set4 W5 B (j * 4) x) (c ++ c') := fun M hM => by
  obtain ⟨ks, hl, hk, hc⟩ := h M hM
  obtain ⟨u, hu, hT, hN, hcu⟩ := hv M hM
  have hux : u.tv = x := by
    simp only [TV.val, Value.agg.injEq] at hu
    simp at hu
    obtain ⟨e1, e2, e3, e4, e5, e6⟩ := hu
    cases hx : u.tv; cases x; simp_all
  refine ⟨ks ++ [u], by simp [hl], fun i z hz => ?_, by simp [hc, hcu]⟩
  by_cases hi : i < j
  · rw [List.getElem?_append_left (by omega)] at hz
    obtain ⟨k1, k2, k3⟩ := hk i z hz
    have k1' := k1.kept (hb.block B hB (fun hx => by have := hX B hx; omega))
    refine ⟨?_, ?_, k3⟩
    · exact ⟨(set4_far W5 B (j * 4) x (by omega)).trans k1'.1, (set4_far W5 B (j * 4) x (by omega)).trans k1'.2.1, (set4_far W5 B (j * 4) x (by omega)).trans k1'.2.2.1, (set4_far W5 B (j * 4) x (by omega)).trans k1'.2.2.2⟩
    · rw [set4_size]
      exact (k2.grb hb (fun k hx => by have := hX k hx; omega) k3).from (fun q hq => set4_other W5 B (j * 4) x (by omega)) k3
  · rw [List.getElem?_append_right (by omega)] at hz
    have hi2 : i - ks.length = 0 := by
      by_cases e : i - ks.length = 0
      · exact e
      · rw [List.getElem?_eq_none (by simp; omega)] at hz; cases hz
    rw [hi2] at hz
    simp at hz
    subst hz
    obtain rfl : i = j := by omega
    refine ⟨?_, ?_, hN⟩
    · rw [hux]
      have g : ∀ q, q < len * 4 → (W5.cell? ⟨B, q, none⟩).isSome = true := fun q hq => by obtain ⟨⟨v, hv⟩, _⟩ := hr.cell hq; rw [hv]; rfl
      exact set4_cells W5 B (i * 4) x (g _ (by omega)) (g _ (by omega)) (g _ (by omega)) (g _ (by omega))
    · rw [set4_size]
      exact hT.from (fun q hq => set4_other W5 B (i * 4) x (by omega)) hN

/-- The states behind the variables of a row of parts. -/
def stepsN {σ : Type} (stp : σ → Int → σ) (s : σ) (l : List Nd) : σ := l.foldl (fun s x => if x.1 = 1 then stp s x.2.1 else s) s
theorem stepsN_append {σ : Type} (stp : σ → Int → σ) (s : σ) (l l' : List Nd) : stepsN stp s (l ++ l') = stepsN stp (stepsN stp s l) l' := List.foldl_append
/-- What a state that goes on must keep to. -/
structure Stately {σ : Type} (I : σ → World → Prop) (X : Nat → Prop) (n₀ lo : Nat) (stp : σ → Int → σ) (β : σ → Int → List Nd) : Prop where
  low : n₀ ≤ lo
  blocks : ∀ k, X k → n₀ ≤ k ∧ k < lo
  keep : ∀ s W W', I s W → lo ≤ W.heap.size → Below lo W W' → I s W'
  stay : ∀ s N l, β (stepsN stp (stp s N) l) N = β (stp s N) N
theorem Stately.sub {σ : Type} {I : σ → World → Prop} {X : Nat → Prop} {n₀ lo : Nat} {stp : σ → Int → σ} {β : σ → Int → List Nd} (h : Stately I X n₀ lo stp β) : ∀ (l l' : List Nd) (s : σ), l.flatMap (subN (β (stepsN stp s (l ++ l')))) = l.flatMap (subN (β (stepsN stp s l)))
  | [], _, _ => rfl
  | x :: l, l', s => by
    have ih := h.sub l l' (if x.1 = 1 then stp s x.2.1 else s)
    have e1 : stepsN stp s (x :: l ++ l') = stepsN stp (if x.1 = 1 then stp s x.2.1 else s) (l ++ l') := rfl
    have e2 : stepsN stp s (x :: l) = stepsN stp (if x.1 = 1 then stp s x.2.1 else s) l := rfl
    rw [List.flatMap_cons, List.flatMap_cons, e1, e2, ih]
    congr 1
    unfold subN
    by_cases hx : x.1 = 1
    · rw [if_pos hx, if_pos hx, if_pos hx, h.stay, h.stay]
    · rw [if_neg hx, if_neg hx]

/-- A function value that says what a variable becomes, and keeps a state. -/
def BecomesX {σ : Type} (g : Nat) (lb : Array Value) (I : σ → World → Prop) (X : Nat → Prop) (lo : Nat) (stp : σ → Int → σ) (β : σ → Int → List Nd) (D : Nat) : Prop :=
  ∀ (N : Int) (W : World) (s : σ), 0 ≤ N → N ≤ 1099511627776 → lo ≤ W.heap.size → I s W → Calls Tryz.prog g (#[.int .i64 N] ++ lb) W fun e W' => ∃ v, e = .returned v ∧ GrB X W.heap.size W W' ∧ I (stp s N) W' ∧ HoldsT D W.heap.size W' v (β (stp s N) N)

set_option maxRecDepth 100000 in
set_option maxHeartbeats 1000000 in
theorem replace_varX {σ : Type} {I : σ → World → Prop} {X : Nat → Prop} {n₀ lo : Nat} {stp : σ → Int → σ} {β : σ → Int → List Nd} (hst : Stately I X n₀ lo stp β) (g : Nat) (lb : Array Value) (D : Nat) (eg : ∀ args w, (callFunc g args).run Tryz.prog w = .ok (.enter g args) w) (hbec : BecomesX g lb I X lo stp β D)
    (N : Int) (s : ByteArray) (a : Option Addr) (len cap : Nat) (W : World) (z : σ) (h0 : 0 ≤ N) (h1 : N ≤ 1099511627776) (hlo : lo ≤ W.heap.size) (hI : I z W) :
    Calls Tryz.prog 60 #[.agg #[.int .i64 1, .int .i64 N, .string s, .slice a len cap], .func (.func g) #[] lb] W fun e W' => ∃ v, e = .returned v ∧ GrB X W.heap.size W W' ∧ I (stp z N) W' ∧ HoldsT D W.heap.size W' v (β (stp z N) N) := by
  have hB2 : Below W.heap.size W ((W.alloc (.cells #[.int .i64 1, .int .i64 N, .string s, .slice a len cap] 24)).alloc (.cells #[.int .i64 0, .int .i64 0, .string ⟨#[]⟩, .slice none 0 0] 24)) := ((Below.refl _ W).alloc (Nat.le_refl _) _).alloc (by simp) _
  have hsz : ((W.alloc (.cells #[.int .i64 1, .int .i64 N, .string s, .slice a len cap] 24)).alloc (.cells #[.int .i64 0, .int .i64 0, .string ⟨#[]⟩, .slice none 0 0] 24)).heap.size = W.heap.size + 2 := by simp
  have hcall := hbec N ((W.alloc (.cells #[.int .i64 1, .int .i64 N, .string s, .slice a len cap] 24)).alloc (.cells #[.int .i64 0, .int .i64 0, .string ⟨#[]⟩, .slice none 0 0] 24)) z h0 h1 (by omega) (hst.keep z W _ hI hlo (hB2.mono hlo))
  have hnew := World.alloc_heap_new (W.alloc (.cells #[.int .i64 1, .int .i64 N, .string s, .slice a len cap] 24)) (.cells #[.int .i64 0, .int .i64 0, .string ⟨#[]⟩, .slice none 0 0] 24)
  rw [World.size_alloc] at hnew
  have HB2 := hide hB2
  have HSZ := hide hsz
  have HNEW := hide hnew
  have HST := hide hst
  clear hbec hI hB2 hsz hnew hst
  go_enter Tryz.func60, Tryz.ntmps60
  go_wp2_with fail
  refine hcall.mono ?_
  clear hcall
  rintro e W1 ⟨v, rfl, hg1, hI1, hv⟩
  rw [unhide HSZ] at hg1 hv
  obtain ⟨t, ht, -⟩ := hv D (Nat.le_refl _)
  subst ht
  have hnx : ¬ X (W.heap.size + 1) := fun hx => by have := ((unhide HST).blocks _ hx).2; omega
  obtain ⟨⟨z0, z1, z2, z3⟩, y0, y1, y2, y3⟩ := zbox_kept ((hg1.block (W.heap.size + 1) (by omega) hnx).trans (unhide HNEW))
  have hs1 : W.heap.size + 2 ≤ W1.heap.size := by have := hg1.size; have := unhide HSZ; omega
  have hfin : HoldsT D W.heap.size (set4 W1 (W.heap.size + 1) 0 t.tv) t.tv.val (β (stp z N) N) := (holds_set4 hv (by omega) 0 t.tv).mono (Nat.le_refl _) (by omega)
  have hgf : GrB X W.heap.size W (set4 W1 (W.heap.size + 1) 0 t.tv) := ((GrB.of_below (unhide HB2)).trans (hg1.mono (by omega))).set4 (by omega) 0 t.tv
  have hIf : I (stp z N) (set4 W1 (W.heap.size + 1) 0 t.tv) := (unhide HST).keep _ _ _ hI1 (by omega) (set4_below (Below.refl _ _) (by omega) 0 t.tv)
  have HF := hide hfin
  have HG := hide hgf
  have HI := hide hIf
  clear hfin hgf hIf hv hg1 hI1 hnx
  simp only [TV.val]
  go_wp2_with fail
  exact bodyPost_ret (v := t.tv.val) (by simp [results, Tryz.results60, go_sem, TV.val, z0, z1, z2, z3]) rfl ⟨_, rfl, unhide HG, unhide HI, unhide HF⟩

/-- The end of replace at a compound. -/
theorem comp_endX {X : Nat → Prop} {D : Nat} {W wr : World} {s : ByteArray} {len : Nat} {c : List Nd} (hB : GrB X W.heap.size W wr) (hs : s.size ≤ 9223372036854775807) (hl : len ≤ 50) (hsz : W.heap.size + 3 ≤ wr.heap.size) (hw : Written D (W.heap.size + 2) len wr c) :
    let x : TV := ⟨4, 0, s, some ⟨W.heap.size + 2, 0, none⟩, len, len⟩
    GrB X W.heap.size W (set4 wr (W.heap.size + 1) 0 x) ∧ HoldsT (D + 1) W.heap.size (set4 wr (W.heap.size + 1) 0 x) x.val ((4, 0, s.toList, len) :: c) := by
  intro x
  refine ⟨hB.set4 (by omega) 0 x, fun m hm => ?_⟩
  obtain ⟨M, rfl⟩ : ∃ M, m = M + 1 := ⟨m - 1, by omega⟩
  obtain ⟨ks, hkl, hks, hkc⟩ := hw M (by omega)
  refine ⟨((x, ks) : TV × List (Tm M)), rfl, ?_, ?_, ?_⟩
  · refine ⟨hkl.symm, ?_, hs, .inr ⟨W.heap.size + 2, 0, rfl, by rw [set4_size]; omega, fun j u hu => ?_⟩⟩
    · show len ≤ _
      omega
    · obtain ⟨k1, k2, k3⟩ := hks j u hu
      refine ⟨?_, ?_⟩
      · rw [Nat.zero_add]
        exact k1.kept (set4_other wr _ 0 x (by omega))
      · rw [set4_size]
        exact k2.from (fun q hq => set4_other wr _ 0 x (by omega)) k3
  · exact ⟨.inr ⟨W.heap.size + 2, 0, rfl, by omega⟩, fun u hu => by
      obtain ⟨j, hj⟩ := List.mem_iff_getElem?.1 hu
      exact (hks j u hj).2.2.mono (by omega)⟩
  · rw [code_succ, hkc]; rfl
theorem kid_grb {n n₀ : Nat} {w wr : World} {a : Option Addr} {len : Nat} {kids : List (Tm n)} (hkids : kids = [] ∨ ∃ b off, a = some ⟨b, off, none⟩ ∧ b < n₀ ∧ ∀ j u, kids[j]? = some u → cellsAt w b (off + j * 4) u.tv ∧ IsT n₀ w u)
    (hbw : Below n₀ w wr) {j : Nat} (hj : j < len) (hl : len ≤ kids.length) :
    ∃ u b off, kids[j]? = some u ∧ a = some ⟨b, off, none⟩ ∧ cellsAt wr b (off + j * 4) u.tv ∧ IsT n₀ wr u ∧ b < n₀ := by
  obtain ⟨u, hu⟩ : ∃ u, kids[j]? = some u := ⟨kids[j]'(by omega), List.getElem?_eq_getElem (by omega)⟩
  have hne : kids ≠ [] := by rintro rfl; simp at hu
  obtain ⟨b, off, ha, hbk, hk⟩ := hkids.resolve_left hne
  obtain ⟨⟨c0, c1, c2, c3⟩, hT⟩ := hk j u hu
  exact ⟨u, b, off, hu, ha, ⟨(hbw.cell (p := ⟨b, off + j * 4, none⟩) hbk).trans c0, (hbw.cell (p := ⟨b, off + j * 4 + 1, none⟩) hbk).trans c1, (hbw.cell (p := ⟨b, off + j * 4 + 2, none⟩) hbk).trans c2, (hbw.cell (p := ⟨b, off + j * 4 + 3, none⟩) hbk).trans c3⟩, hT.below hbw, hbk⟩

set_option maxRecDepth 100000 in
set_option maxHeartbeats 1000000 in
theorem replace_compX {σ : Type} {I : σ → World → Prop} {X : Nat → Prop} {n₀ lo : Nat} {stp : σ → Int → σ} {β : σ → Int → List Nd} (hst : Stately I X n₀ lo stp β) {n : Nat} (fv : Value) (D : Nat)
    (ih : ∀ (u : Tm n) (W : World) (z : σ), lo ≤ W.heap.size → I z W → IsT n₀ W u → okT u = true → Calls Tryz.prog 60 #[u.tv.val, fv] W fun e W' => ∃ v, e = .returned v ∧ GrB X W.heap.size W W' ∧ I (stepsN stp z (code u)) W' ∧ HoldsT (n + D) W.heap.size W' v ((code u).flatMap (subN (β (stepsN stp z (code u))))))
    (s : ByteArray) (a : Option Addr) (len cap : Nat) (kids : List (Tm n)) (W : World) (z : σ) (hlo : lo ≤ W.heap.size) (hI : I z W) (hs : s.size ≤ 9223372036854775807) (hl50 : len ≤ 50) (hlen : len = kids.length)
    (hkids : kids = [] ∨ ∃ b off, a = some ⟨b, off, none⟩ ∧ b < n₀ ∧ ∀ j u, kids[j]? = some u → cellsAt W b (off + j * 4) u.tv ∧ IsT n₀ W u) (hok : ∀ u ∈ kids, okT u = true) :
    Calls Tryz.prog 60 #[.agg #[.int .i64 4, .int .i64 0, .string s, .slice a len cap], fv] W fun e W' => ∃ v, e = .returned v ∧ GrB X W.heap.size W W' ∧ I (stepsN stp z (kids.flatMap code)) W' ∧ HoldsT (n + 1 + D) W.heap.size W' v ((4, 0, s.toList, len) :: (kids.flatMap code).flatMap (subN (β (stepsN stp z (kids.flatMap code))))) := by
  have hl1 : len ≤ kids.length := by omega
  have hl2 : kids.length ≤ len := by omega
  clear hlen
  have hlow := hst.low
  have HI := hide ih
  have HO := hide hok
  have HST := hide hst
  have HIZ := hide hI
  clear ih hok hst hI
  have hmk := make_terms len hl50
  go_enter Tryz.func60, Tryz.ntmps60
  go_wp2_with fail
  obtain ⟨W3, hW3, hb3, hs3, bT, hz, hr⟩ := made_world W ⟨4, 0, s, a, len, cap⟩ len
  simp only at hW3
  rw [hW3]
  clear hW3 hmk
  have HZ := hide hz
  have HT := hide bT
  have HR := hide hr
  have HS := hide hs3
  clear hz bT hr hs3
  have hnx : ∀ k, lo ≤ k → ¬ X k := fun k hk hx => by have := ((unhide HST).blocks k hx).2; omega
  go_loopw [25] (fun i wr => ∃ j : Nat, j ≤ len ∧ i = .int .i64 j ∧ GrB X (W.heap.size + 2) W3 wr ∧ Row4 wr (W.heap.size + 2) len ∧ I (stepsN stp z ((kids.take j).flatMap code)) wr ∧ Written (n + D) (W.heap.size + 2) j wr (((kids.take j).flatMap code).flatMap (subN (β (stepsN stp z ((kids.take j).flatMap code)))))) (fun i _ => len - (intOf i).toNat)
  case atStart => exact ⟨0, Nat.zero_le _, rfl, GrB.refl _ _ _, unhide HR, (unhide HST).keep _ _ _ (unhide HIZ) hlo (hb3.mono hlo), Written.zero _ _ _⟩
  case round =>
    obtain ⟨j, hj, rfl, hg, hrow, hIj, hwr⟩ := hrel
    have hgw : GrB X W.heap.size W wr := (GrB.of_below hb3).trans (hg.mono (by omega))
    have hbw : Below n₀ W wr := hgw.below (fun k hx => ((unhide HST).blocks k hx).1) (by omega)
    have hsz : W.heap.size + 3 ≤ wr.heap.size := by have := hg.size; have := unhide HS; omega
    by_cases hlt : j < len
    · obtain ⟨u, b, off, hu, rfl, ⟨c0, c1, c2, c3⟩, hT, hbk⟩ := kid_grb hkids hbw hlt hl1
      have hbu : Below wr.heap.size wr (wr.alloc (.cells #[.int .i64 u.tv.k, .int .i64 u.tv.N, .string u.tv.s, .slice u.tv.a u.tv.len u.tv.cap] 24)) := (Below.refl _ wr).alloc (Nat.le_refl _) _
      have ihu := (unhide HI) u (wr.alloc (.cells #[.int .i64 u.tv.k, .int .i64 u.tv.N, .string u.tv.s, .slice u.tv.a u.tv.len u.tv.cap] 24)) _ (by simp; omega) ((unhide HST).keep _ _ _ hIj (by omega) (hbu.mono (by omega))) (hT.below (hbu.mono (by omega))) ((unhide HO) u (List.mem_of_getElem? hu))
      have hcode := code_take kids j u hu
      have HC := hide hcode
      have HW := hide hwr
      have HRW := hide hrow
      clear hT hkids hu hcode hwr hrow hIj
      simp only [TV.val] at ihu
      have hj1 : (j : Int) < len := by omega
      go_wp2_with fail
      refine ihu.mono ?_
      clear ihu
      rintro e W5 ⟨v, rfl, hg5, hI5, hv⟩
      rw [← stepsN_append, ← unhide HC] at hI5 hv
      obtain ⟨t5, ht5, -⟩ := hv _ (Nat.le_refl _)
      subst ht5
      have hg5' : GrB X wr.heap.size wr W5 := (GrB.of_below hbu).trans (hg5.mono hbu.size)
      have hrow5 : Row4 W5 (W.heap.size + 2) len := (unhide HRW).kept (hg5'.block _ (unhide HRW).lt (hnx _ (by omega)))
      obtain ⟨⟨_, z0⟩, y0⟩ := hrow5.cell (o := j * 4) (by omega)
      obtain ⟨⟨_, z1⟩, y1⟩ := hrow5.cell (o := j * 4 + 1) (by omega)
      obtain ⟨⟨_, z2⟩, y2⟩ := hrow5.cell (o := j * 4 + 2) (by omega)
      obtain ⟨⟨_, z3⟩, y3⟩ := hrow5.cell (o := j * 4 + 3) (by omega)
      have hv5 := hv.mono (lo' := W.heap.size + 2 + 1) (Nat.le_refl _) (by simp; omega)
      have hfin := (unhide HW).nextX hlt hrow5 hg5' (fun k hx => by have := ((unhide HST).blocks k hx).2; omega) (unhide HRW).lt hv5
      have hsub := (unhide HST).sub ((kids.take j).flatMap code) (code u) z
      rw [← hsub, ← unhide HC, ← List.flatMap_append, ← unhide HC] at hfin
      have hfin2 := hrow5.set4 (j * 4) t5.tv
      have hfin3 : GrB X (W.heap.size + 2) W3 (set4 W5 (W.heap.size + 2) (j * 4) t5.tv) := (hg.trans (hg5'.mono (by omega))).set4 (Nat.le_refl _) _ _
      have hs5 : lo ≤ W5.heap.size := by have := hg5'.size; omega
      have hfin4 : I (stepsN stp z ((kids.take (j + 1)).flatMap code)) (set4 W5 (W.heap.size + 2) (j * 4) t5.tv) := (unhide HST).keep _ _ _ hI5 hs5 (set4_below (Below.refl _ _) (by omega) _ _)
      have G1 := hide hfin
      have G2 := hide hfin2
      have G3 := hide hfin3
      have G4 := hide hfin4
      clear hfin hfin2 hfin3 hfin4 hv hv5 hg5 hrow5 hg5' hbu hsub hI5
      simp only [TV.val]
      go_wp2_with fail
      go_roundw
      case rel => exact ⟨j + 1, by omega, by go_num, unhide G3, unhide G2, unhide G4, unhide G1⟩
      case measure => simp [intOf]; omega
    · have ht : kids.take j = kids := List.take_of_length_le (by omega)
      obtain rfl : j = len := by omega
      rw [ht] at hwr hIj
      obtain ⟨⟨z0, z1, z2, z3⟩, y0, y1, y2, y3⟩ := zbox_kept ((hg.block (W.heap.size + 1) (by omega) (hnx _ (by omega))).trans (unhide HZ))
      have bT : BoxT wr W.heap.size ⟨4, 0, s, a, j, cap⟩ := (hg.block W.heap.size (by omega) (hnx _ (by omega))).trans (unhide HT)
      have x2 := bT.c2
      obtain ⟨f1, f2⟩ := comp_endX hgw hs hl50 hsz hwr
      have f3 := (unhide HST).keep _ _ _ hIj (by omega) (set4_below (Below.refl lo wr) (b := W.heap.size + 1) (by omega) 0 ⟨4, 0, s, some ⟨W.heap.size + 2, 0, none⟩, j, j⟩)
      have F1 := hide f1
      have F2 := hide f2
      have F3 := hide f3
      clear f1 f2 f3 hwr ht hkids hrow hIj
      go_wp2_with fail
      exact bodyPost_ret (v := (⟨4, 0, s, some ⟨W.heap.size + 2, 0, none⟩, j, j⟩ : TV).val) (by simp [results, Tryz.results60, go_sem, TV.val, z0, z1, z2, z3]) rfl ⟨_, rfl, unhide F1, unhide F3, by have h := unhide F2; rw [show n + 1 + D = n + D + 1 by omega]; exact h⟩

/-- term.replace, whatever the term, with a state. -/
theorem replace_anyX {σ : Type} {I : σ → World → Prop} {X : Nat → Prop} {n₀ lo : Nat} {stp : σ → Int → σ} {β : σ → Int → List Nd} (hst : Stately I X n₀ lo stp β) (g : Nat) (lb : Array Value) (D : Nat) (hD : 1 ≤ D) (eg : ∀ args w, (callFunc g args).run Tryz.prog w = .ok (.enter g args) w) (hbec : BecomesX g lb I X lo stp β D) :
    ∀ (n : Nat) (t : Tm n) (W : World) (z : σ), lo ≤ W.heap.size → I z W → IsT n₀ W t → okT t = true →
      Calls Tryz.prog 60 #[t.tv.val, .func (.func g) #[] lb] W fun e W' => ∃ v, e = .returned v ∧ GrB X W.heap.size W W' ∧ I (stepsN stp z (code t)) W' ∧ HoldsT (n + D) W.heap.size W' v ((code t).flatMap (subN (β (stepsN stp z (code t))))) := by
  intro n
  induction n with
  | zero => intro t; exact Empty.elim t
  | succ n ih =>
    intro t W z hlo hI hT hok
    obtain ⟨⟨k, N, s, a, len, cap⟩, kids⟩ := t
    obtain ⟨hwm, hk⟩ := ok_kids hok
    obtain ⟨h1, h2, h3, h4⟩ := hT
    simp only [Tm.tv, Tm.kids] at h1 h2 h3 h4 hwm
    rw [code_succ, List.flatMap_cons]
    rcases wm_cases hwm with ⟨rfl, hN1, hN2, hse, rfl⟩ | ⟨hk23, rfl⟩ | ⟨rfl, rfl, hl1, hl2⟩
    · have hnil : kids = [] := List.length_eq_zero_iff.1 h1.symm
      subst hnil
      refine (replace_varX hst g lb D eg hbec N s a 0 cap W z hN1 hN2 hlo hI).mono fun e W' h => ?_
      obtain ⟨v, he, hb', hI', hv⟩ := h
      exact ⟨v, he, hb', by simpa [stepsN, TV.nd] using hI', by simpa [subN, TV.nd, stepsN] using hv.mono (by omega) (Nat.le_refl _)⟩
    · have hnil : kids = [] := List.length_eq_zero_iff.1 h1.symm
      subst hnil
      refine (replace_leaf _ k N s a 0 cap W hk23 h3).mono fun e W' h => ?_
      obtain ⟨v, he, hb', hv⟩ := h
      have hne : ¬ k = 1 := by omega
      refine ⟨v, he, GrB.of_below hb', ?_, by simpa [subN, TV.nd, hne] using hv.mono (by omega) (Nat.le_refl _)⟩
      have := hst.keep z W W' hI hlo (hb'.mono hlo)
      simpa [stepsN, TV.nd, hne] using this
    · refine (replace_compX hst _ D ih s a len cap kids W z hlo hI h3 hl2 h1 h4 hk).mono fun e W' h => ?_
      obtain ⟨v, he, hb', hI', hv⟩ := h
      exact ⟨v, he, hb', by simpa [stepsN, TV.nd] using hI', by simpa [subN, TV.nd, stepsN] using hv⟩
end Go.Proofs.YtiigkiemkhdclaaGreatDoor

/- The contracts of number's closure and of term.number: variables get new numbers in the order of their coming. -/
namespace Go.Proofs.YtiigkiemkhdclaaGreatDoor
open Go.RowKit Go.Shelf Go.Maps

def stpN (c : List Int) (N : Int) : List Int := if N ∈ c then c else c ++ [N]
def renN (f : Int) (c : List Int) (N : Int) : List Nd := [varNd (f + (c.idxOf N : Nat))]
theorem stpN_ext (c : List Int) (N : Int) : ∃ d, stpN c N = c ++ d := by
  unfold stpN
  split
  · exact ⟨[], by simp⟩
  · exact ⟨[N], rfl⟩
theorem stpN_mem (c : List Int) (N : Int) : N ∈ stpN c N := by
  unfold stpN
  split
  · assumption
  · simp
theorem stepsN_ext : ∀ (l : List Nd) (c : List Int), ∃ d, stepsN stpN c l = c ++ d
  | [], c => ⟨[], by simp [stepsN]⟩
  | x :: l, c => by
    have e : stepsN stpN c (x :: l) = stepsN stpN (if x.1 = 1 then stpN c x.2.1 else c) l := rfl
    rw [e]
    obtain ⟨d, hd⟩ := stepsN_ext l (if x.1 = 1 then stpN c x.2.1 else c)
    rw [hd]
    split
    · obtain ⟨d', hd'⟩ := stpN_ext c x.2.1
      exact ⟨d' ++ d, by rw [hd', List.append_assoc]⟩
    · exact ⟨d, rfl⟩
theorem idxOf_ext {c : List Int} {N : Int} (h : N ∈ c) (d : List Int) : (c ++ d).idxOf N = c.idxOf N := by
  rw [List.idxOf_append, if_pos h]

/-- The map of numbers given, the box that holds it, the counter. -/
structure NumI (f : Int) (mb bb nb : Nat) (c : List Int) (W : World) : Prop where
  nodup : c.Nodup
  key : ∀ N ∈ c, 0 ≤ N ∧ N ≤ 1099511627776
  box : W.heap[bb]? = some (.cells #[.map (some mb)] 120 (0, 0))
  next : W.heap[nb]? = some (.cells #[.int .i64 (f + (c.length : Nat))] 2 (0, 0))
  map : ∃ E : DataW Unit, W.ownsMap Tryz.prog 2 (plainElem Tryz.prog 2) mb c.length E ∧ (∀ N, Maps.has E (.int .i64 N) = true ↔ N ∈ c) ∧ ∀ N ∈ c, ∀ z, E.atKey (.int .i64 N) z = .lit (.int .i64 (f + (c.idxOf N : Nat)))
theorem numI_keep {f : Int} {mb bb nb lo : Nat} (h1 : mb < lo) (h2 : bb < lo) (h3 : nb < lo) {c : List Int} {W W' : World} (h : NumI f mb bb nb c W) (hb : Below lo W W') : NumI f mb bb nb c W' := by
  obtain ⟨E, ⟨es, clock, e1, e2⟩, e3⟩ := h.map
  exact ⟨h.nodup, h.key, (hb.block _ h2).trans h.box, (hb.block _ h3).trans h.next, E, ⟨es, clock, (hb.block _ h1).trans e1, e2⟩, e3⟩
theorem nodup_range {c : List Int} (hn : c.Nodup) (hk : ∀ N ∈ c, 0 ≤ N ∧ N ≤ 1099511627776) : c.length ≤ 1099511627777 := by
  have h1 := nodup_le 1099511627777 (c.map Int.toNat) (by
    rw [List.Nodup, List.pairwise_map]
    exact List.Pairwise.imp_of_mem (fun {p q} hp hq hne e => hne (by have := hk p hp; have := hk q hq; omega)) hn) (fun x hx => by
    obtain ⟨q, hq, rfl⟩ := List.mem_map.1 hx
    have := hk q hq
    omega)
  simpa using h1
theorem stately_num {f : Int} {mb bb nb n₀ lo : Nat} (h0 : n₀ ≤ lo) (h1 : n₀ ≤ mb ∧ mb < lo) (h2 : bb < lo) (h3 : n₀ ≤ nb ∧ nb < lo) : Stately (NumI f mb bb nb) (fun k => k = mb ∨ k = nb) n₀ lo stpN (renN f) where
  low := h0
  blocks := by rintro k (rfl | rfl) <;> assumption
  keep := fun s W W' h _ hb => numI_keep h1.2 h2 h3.2 h hb
  stay := fun s N l => by
    obtain ⟨d, hd⟩ := stepsN_ext l (stpN s N)
    unfold renN
    rw [hd, idxOf_ext (stpN_mem s N)]
theorem Tryz.zero2 (w : World) : (zeroValue 2).run Tryz.prog w = .ok (.int .i64 0) w := by kernel_rfl
theorem wf_i64 {N : Int} (h0 : 0 ≤ N) (h1 : N ≤ 9223372036854775807) : (Lit.int .i64 N).wf = true := by simp [Lit.wf, IntKind.min, IntKind.max, IntKind.signed, IntKind.bits]; omega
theorem numI_look {f : Int} {mb bb nb : Nat} {c : List Int} {W : World} (h : NumI f mb bb nb c W) {N : Int} (h0 : 0 ≤ N) (h1 : N ≤ 1099511627776) (hN : N ∈ c) :
    (Instr.lookup 120 (.map (some mb)) (.int .i64 N) true).run Tryz.prog W = .ok (.tuple #[.int .i64 (f + (c.idxOf N : Nat)), .bool true]) W := by
  obtain ⟨E, e1, e2, e3⟩ := h.map
  obtain ⟨v, ps, hrun, hv⟩ := e1.look_ok Tryz.keyed2 Tryz.underlying120 (Tryz.zero2 W) (plainElem_int Tryz.underlying2 (by decide)) (key_i64 h0 h1)
  rw [(e2 N).2 hN] at hrun
  rw [e3 N hN] at hv
  obtain ⟨y, rfl, hy, _⟩ := plainElem_int_inv Tryz.underlying2 hv
  simp at hy
  rw [hrun, hy.1]
theorem numI_miss {f : Int} {mb bb nb : Nat} {c : List Int} {W : World} (h : NumI f mb bb nb c W) {N : Int} (h0 : 0 ≤ N) (h1 : N ≤ 1099511627776) (hN : N ∉ c) :
    (Instr.lookup 120 (.map (some mb)) (.int .i64 N) true).run Tryz.prog W = .ok (.tuple #[.int .i64 0, .bool false]) W := by
  obtain ⟨E, e1, e2, e3⟩ := h.map
  obtain ⟨v, ps, hrun, hv⟩ := e1.look_ok Tryz.keyed2 Tryz.underlying120 (Tryz.zero2 W) (plainElem_int Tryz.underlying2 (by decide)) (key_i64 h0 h1)
  have hf : Maps.has E (.int .i64 N) = false := by
    cases hh : Maps.has E (.int .i64 N) with
    | false => rfl
    | true => exact (hN ((e2 N).1 hh)).elim
  rw [hf] at hrun
  rw [atKey_of_not_has hf] at hv
  obtain ⟨y, rfl, hy, _⟩ := plainElem_int_inv Tryz.underlying2 hv
  simp at hy
  rw [hrun, hy.1]
theorem one_cell {W : World} {b : Nat} {v : Value} {T : TypeId} (h : W.heap[b]? = some (.cells #[v] T (0, 0))) : W.cell? ⟨b, 0, none⟩ = some v ∧ W.frozen? ⟨b, 0, none⟩ = false := by
  constructor <;> simp [World.cell?, World.frozen?, h]
theorem set_one {W : World} {b : Nat} {v v' : Value} {T : TypeId} (h : W.heap[b]? = some (.cells #[v] T (0, 0))) : (W.setCell ⟨b, 0, none⟩ v').heap[b]? = some (.cells #[v'] T (0, 0)) := by
  obtain ⟨hlt, hk⟩ := Array.getElem?_eq_some_iff.1 h
  show (W.heap.modify b _)[b]? = _
  rw [Array.getElem?_eq_getElem (by rw [Array.size_modify]; exact hlt), Array.getElem_modify_self, hk]
  rfl
/-- A variable that is new: the map, and the counter behind it. -/
theorem numI_put {f : Int} {mb bb nb : Nat} {c : List Int} {W : World} (h : NumI f mb bb nb c W) (hf0 : 0 ≤ f) (hf1 : f ≤ 1099511627776) (hne : mb ≠ bb ∧ mb ≠ nb ∧ bb ≠ nb) {N : Int} (h0 : 0 ≤ N) (h1 : N ≤ 1099511627776) (hN : N ∉ c) :
    ∃ W', (Instr.mapUpdate 120 (.map (some mb)) (.int .i64 N) (.int .i64 (f + (c.length : Nat)))).run Tryz.prog W = .ok () W' ∧ W.grownBy W' (some mb) ∧ W'.heap[nb]? = some (.cells #[.int .i64 (f + (c.length : Nat))] 2 (0, 0)) ∧ NumI f mb bb nb (c ++ [N]) (W'.setCell ⟨nb, 0, none⟩ (.int .i64 (f + (c.length : Nat) + 1))) := by
  have hle := nodup_range h.nodup h.key
  obtain ⟨E, e1, e2, e3⟩ := h.map
  have hm := e1.isMap
  obtain ⟨W', hrun, f1, f2⟩ := e1.update Tryz.keyed2 Tryz.underlying120 (by unfold maxLen; omega) (key_i64 h0 h1) (plainElem_int Tryz.underlying2 (wf_i64 (N := f + (c.length : Nat)) (by omega) (by omega)))
  have hkl : WideAt.IsKeyLit (.int .i64 N) := Tryz.keyed2.key (key_i64 h0 h1)
  have hlt : ∀ {k : Nat} {o : Obj}, W.heap[k]? = some o → k < W.heap.size := fun hk => (Array.getElem?_eq_some_iff.1 hk).1
  have hnx : W'.heap[nb]? = some (.cells #[.int .i64 (f + (c.length : Nat))] 2 (0, 0)) := (f2.block nb (hlt h.next) (by simpa using hne.2.1.symm)).trans h.next
  have hbx : W'.heap[bb]? = some (.cells #[.map (some mb)] 120 (0, 0)) := (f2.block bb (hlt h.box) (by simpa using hne.1.symm)).trans h.box
  refine ⟨W', hrun, f2, hnx, ⟨?_, ?_, ?_, ?_, _, f1.setCell (a := ⟨nb, 0, none⟩) hne.2.1 _ |>.mono (by simp), ?_, ?_⟩⟩
  · rw [List.nodup_append]
    exact ⟨h.nodup, by simp, fun a ha b hb => by simp at hb; subst hb; exact fun e => hN (e ▸ ha)⟩
  · intro M hM
    rcases List.mem_append.1 hM with hM | hM
    · exact h.key M hM
    · simp at hM; subst hM; exact ⟨h0, h1⟩
  · rw [Below.heap_setCell _ _ _ _ (by simpa using hne.2.2)]; exact hbx
  · rw [set_one hnx]
    have : f + ((c ++ [N]).length : Nat) = f + (c.length : Nat) + 1 := by simp; omega
    rw [this]
  · intro M
    by_cases e : M = N
    · subst e
      rw [has_put_same hm hkl]
      simp
    · rw [has_put_other (by simpa using e), e2 M]
      simp [e]
  · intro M hM z
    by_cases e : M = N
    · subst e
      rw [atKey_put_same hm hkl]
      have : (c ++ [M]).idxOf M = c.length := by rw [List.idxOf_append, if_neg hN]; simp
      rw [this]
    · have hMc : M ∈ c := by simpa [e] using hM
      rw [atKey_put_other (by simpa using e), e3 M hMc, idxOf_ext hMc]

theorem varV_holds (M : Int) (lo : Nat) (W : World) : HoldsT 1 lo W (varV M).val [varNd M] := by
  have hh := holds_leaf (varV M) rfl (by simp [varV, ByteArray.size]) lo W
  rw [varV_nd] at hh
  exact hh
theorem zbox_new (W : World) : (W.alloc (.cells #[.int .i64 0, .int .i64 0, .string ⟨#[]⟩, .slice none 0 0] 24)).heap[W.heap.size]? = some (.cells #[.int .i64 0, .int .i64 0, .string ⟨#[]⟩, .slice none 0 0] 24 (0, 0)) := World.alloc_heap_new W _

set_option maxRecDepth 100000 in
set_option maxHeartbeats 1000000 in
theorem number1_old {f : Int} {mb bb nb : Nat} {c : List Int} (N : Int) (W : World) (h0 : 0 ≤ N) (h1 : N ≤ 1099511627776) (hlt : mb < W.heap.size ∧ bb < W.heap.size ∧ nb < W.heap.size) (hI : NumI f mb bb nb c W) (hN : N ∈ c) :
    Calls Tryz.prog 86 #[.int .i64 N, .pointer (some ⟨bb, 0, none⟩), .pointer (some ⟨nb, 0, none⟩)] W fun e W' => e = .returned (varV (f + (c.idxOf N : Nat))).val ∧ Below W.heap.size W W' := by
  have hB1 : Below W.heap.size W (W.alloc (.cells #[.int .i64 0, .int .i64 0, .string ⟨#[]⟩, .slice none 0 0] 24)) := (Below.refl _ W).alloc (Nat.le_refl _) _
  have hI1 := numI_keep hlt.1 hlt.2.1 hlt.2.2 hI hB1
  have hrun := numI_look hI1 h0 h1 hN
  obtain ⟨m0, -⟩ := one_cell hI1.box
  have hz := zbox_new W
  generalize hM : f + (c.idxOf N : Nat) = M at hrun ⊢
  obtain ⟨W1, hW1⟩ : ∃ W1, W.alloc (.cells #[.int .i64 0, .int .i64 0, .string ⟨#[]⟩, .slice none 0 0] 24) = W1 := ⟨_, rfl⟩
  have HW1 := hide hW1
  rw [hW1] at hB1 hz
  have HB1 := hide hB1
  have HZ := hide hz
  have hva := variable_any M W1
  rw [← hW1] at hva
  clear hI hI1 hN hM hB1 hz hW1 h0 h1 hlt
  simp only [TV.val, varV] at hva ⊢
  go_enter Tryz.func86, Tryz.ntmps86
  go_wp2_with fail
  refine hva.mono ?_
  clear hva
  rintro e W2 ⟨rfl, hb2⟩
  rw [unhide HW1] at hb2
  obtain ⟨⟨z0, z1, z2, z3⟩, y0, y1, y2, y3⟩ := zbox_kept ((hb2.block W.heap.size (Array.getElem?_eq_some_iff.1 (unhide HZ)).1).trans (unhide HZ))
  have hbf : Below W.heap.size W (set4 W2 W.heap.size 0 (varV M)) := set4_below ((unhide HB1).trans (hb2.mono (unhide HB1).size)) (Nat.le_refl _) 0 _
  have HBF := hide hbf
  clear hbf hb2
  go_wp2_with fail
  exact bodyPost_ret (v := (varV M).val) (by simp [results, Tryz.results86, go_sem, TV.val, varV, z0, z1, z2, z3]) rfl ⟨rfl, unhide HBF⟩

set_option maxRecDepth 100000 in
set_option maxHeartbeats 1000000 in
theorem number1_new {f : Int} {mb bb nb : Nat} {c : List Int} (hf0 : 0 ≤ f) (hf1 : f ≤ 1099511627776) (hne : mb ≠ bb ∧ mb ≠ nb ∧ bb ≠ nb) (N : Int) (W : World) (h0 : 0 ≤ N) (h1 : N ≤ 1099511627776) (hlt : mb < W.heap.size ∧ bb < W.heap.size ∧ nb < W.heap.size) (hI : NumI f mb bb nb c W) (hN : N ∉ c) :
    Calls Tryz.prog 86 #[.int .i64 N, .pointer (some ⟨bb, 0, none⟩), .pointer (some ⟨nb, 0, none⟩)] W fun e W' => e = .returned (varV (f + (c.length : Nat))).val ∧ GrB (fun k => k = mb ∨ k = nb) W.heap.size W W' ∧ NumI f mb bb nb (c ++ [N]) W' := by
  have hle := nodup_range hI.nodup hI.key
  have hB1 : Below W.heap.size W (W.alloc (.cells #[.int .i64 0, .int .i64 0, .string ⟨#[]⟩, .slice none 0 0] 24)) := (Below.refl _ W).alloc (Nat.le_refl _) _
  have hI1 := numI_keep hlt.1 hlt.2.1 hlt.2.2 hI hB1
  have hrun := numI_miss hI1 h0 h1 hN
  obtain ⟨m0, -⟩ := one_cell hI1.box
  obtain ⟨x0, -⟩ := one_cell hI1.next
  obtain ⟨W2, hup, hg2, hnx2, hI3⟩ := numI_put hI1 hf0 hf1 hne h0 h1 hN
  obtain ⟨x2, x2f⟩ := one_cell hnx2
  have hz := zbox_new W
  have hwr : IntKind.i64.wrap (f + (c.length : Nat) + 1) = f + (c.length : Nat) + 1 := by simp [IntKind.wrap, IntKind.bits, IntKind.signed]; omega
  have hz2 : W2.heap[W.heap.size]? = some (.cells #[.int .i64 0, .int .i64 0, .string ⟨#[]⟩, .slice none 0 0] 24 (0, 0)) := (hg2.block W.heap.size (by simp) (by simp; omega)).trans hz
  have hz3 : (W2.setCell ⟨nb, 0, none⟩ (.int .i64 (f + (c.length : Nat) + 1))).heap[W.heap.size]? = some (.cells #[.int .i64 0, .int .i64 0, .string ⟨#[]⟩, .slice none 0 0] 24 (0, 0)) := by rw [Below.heap_setCell _ _ _ _ (by simp; omega)]; exact hz2
  have hg3 : GrB (fun k => k = mb ∨ k = nb) W.heap.size W (W2.setCell ⟨nb, 0, none⟩ (.int .i64 (f + (c.length : Nat) + 1))) := by
    have hs := hg2.size
    have hs1 := hB1.size
    exact ⟨hg2.os, hg2.tape, hg2.output, by simp; omega, fun k hk hx => by
      rw [Below.heap_setCell _ _ _ _ (fun e => hx (.inr (by simpa using e))), hg2.block k (by omega) (by simpa using fun e => hx (.inl e)), hB1.block k hk]⟩
  have hva := variable_any (f + (c.length : Nat)) (W2.setCell ⟨nb, 0, none⟩ (.int .i64 (f + (c.length : Nat) + 1)))
  have HZ3 := hide hz3
  have HG3 := hide hg3
  have HI3 := hide hI3
  have HL := hide hlt
  clear hI hI1 hN hB1 hz hg2 hnx2 hI3 hz2 hz3 hg3 h0 h1 hlt hle
  simp only [TV.val, varV] at hva ⊢
  go_enter Tryz.func86, Tryz.ntmps86
  go_wp2_with fail
  refine hva.mono ?_
  clear hva
  rintro e W4 ⟨rfl, hb4⟩
  obtain ⟨W3, hW3⟩ : ∃ W3, W2.setCell ⟨nb, 0, none⟩ (.int .i64 (f + (c.length : Nat) + 1)) = W3 := ⟨_, rfl⟩
  rw [hW3] at hb4 HZ3 HG3 HI3
  have hw3 : W.heap.size < W3.heap.size := (Array.getElem?_eq_some_iff.1 (unhide HZ3)).1
  obtain ⟨⟨z0, z1, z2, z3⟩, y0, y1, y2, y3⟩ := zbox_kept ((hb4.block W.heap.size hw3).trans (unhide HZ3))
  have hgf : GrB (fun k => k = mb ∨ k = nb) W.heap.size W (set4 W4 W.heap.size 0 (varV (f + (c.length : Nat)))) := ((unhide HG3).trans (GrB.of_below (hb4.mono (by omega)))).set4 (Nat.le_refl _) 0 _
  have hIf : NumI f mb bb nb (c ++ [N]) (set4 W4 W.heap.size 0 (varV (f + (c.length : Nat)))) := numI_keep (unhide HL).1 (unhide HL).2.1 (unhide HL).2.2 (unhide HI3) (set4_below (hb4.mono (by omega)) (Nat.le_refl _) 0 _)
  have HF := hide (And.intro hgf hIf)
  clear hgf hIf hb4 hW3
  go_wp2_with fail
  exact bodyPost_ret (v := (varV (f + (c.length : Nat))).val) (by simp [results, Tryz.results86, go_sem, TV.val, varV, z0, z1, z2, z3]) rfl ⟨rfl, unhide HF⟩

/-- number's closure says what a variable becomes, and keeps the numbers given. -/
theorem number1_becomes {f : Int} {mb bb nb lo : Nat} (hf0 : 0 ≤ f) (hf1 : f ≤ 1099511627776) (hne : mb ≠ bb ∧ mb ≠ nb ∧ bb ≠ nb) (hlo : mb < lo ∧ bb < lo ∧ nb < lo) :
    BecomesX 86 #[.pointer (some ⟨bb, 0, none⟩), .pointer (some ⟨nb, 0, none⟩)] (NumI f mb bb nb) (fun k => k = mb ∨ k = nb) lo stpN (renN f) 1 := fun N W c h0 h1 hW hI => by
  have hlt : mb < W.heap.size ∧ bb < W.heap.size ∧ nb < W.heap.size := ⟨by omega, by omega, by omega⟩
  by_cases hN : N ∈ c
  · have e : stpN c N = c := if_pos hN
    rw [e]
    refine (number1_old N W h0 h1 hlt hI hN).mono fun e W' h => ?_
    exact ⟨_, h.1, GrB.of_below h.2, numI_keep hlt.1 hlt.2.1 hlt.2.2 hI h.2, varV_holds _ _ _⟩
  · have e : stpN c N = c ++ [N] := if_neg hN
    rw [e]
    refine (number1_new hf0 hf1 hne N W h0 h1 hlt hI hN).mono fun e W' h => ?_
    refine ⟨_, h.1, h.2.1, h.2.2, ?_⟩
    have : renN f (c ++ [N]) N = [varNd (f + (c.length : Nat))] := by
      unfold renN
      rw [List.idxOf_append, if_neg hN]
      simp
    rw [this]
    exact varV_holds _ _ _
end Go.Proofs.YtiigkiemkhdclaaGreatDoor

