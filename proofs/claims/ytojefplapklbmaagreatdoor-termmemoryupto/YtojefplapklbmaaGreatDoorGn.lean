import Derived.Test.YtojefplapklbmaaGreatDoorGs
import Derived.Test.YtojefplapklbmaaGreatDoorObs
import Derived.Test.YtojefplapklbmaaGreatDoorWos
/- The contract of term.generalize. -/
namespace Go.Proofs.YtojefplapklbmaaGreatDoor
open Go.RowKit Go.Shelf Go.Maps

def stepsP (ps : List Pr) (l : List Pr) : List Pr := l.foldl stpP ps
def ιP (ps : List Pr) (p : Pr) : Int := (ps.idxOf p : Nat)
theorem stepsP_append (ps l l' : List Pr) : stepsP ps (l ++ l') = stepsP (stepsP ps l) l' := List.foldl_append
theorem stpP_ext (ps : List Pr) (p : Pr) : ∃ d, stpP ps p = ps ++ d := by
  unfold stpP
  split
  · exact ⟨[], by simp⟩
  · exact ⟨[p], rfl⟩
theorem stepsP_ext : ∀ (l ps : List Pr), ∃ d, stepsP ps l = ps ++ d ∧ d.length ≤ l.length
  | [], ps => ⟨[], by simp [stepsP], Nat.le_refl _⟩
  | p :: l, ps => by
    have e : stepsP ps (p :: l) = stepsP (stpP ps p) l := rfl
    rw [e]
    obtain ⟨d, hd, hl⟩ := stepsP_ext l (stpP ps p)
    rw [hd]
    unfold stpP
    split
    · exact ⟨d, rfl, by simp; omega⟩
    · exact ⟨[p] ++ d, by simp, by simp; omega⟩
theorem stpP_mem (ps : List Pr) (p : Pr) : p ∈ stpP ps p := by
  unfold stpP
  split
  · assumption
  · simp
theorem stepsP_mem : ∀ (l ps : List Pr), ∀ p ∈ l, p ∈ stepsP ps l
  | q :: l, ps, p, hp => by
    have e : stepsP ps (q :: l) = stepsP (stpP ps q) l := rfl
    rw [e]
    rcases List.mem_cons.1 hp with rfl | hp
    · obtain ⟨d, hd, _⟩ := stepsP_ext l (stpP ps p)
      rw [hd]; exact List.mem_append_left _ (stpP_mem ps p)
    · exact stepsP_mem l _ p hp
theorem ιP_stay {ps l : List Pr} {p : Pr} (h : p ∈ ps) : ιP (stepsP ps l) p = ιP ps p := by
  obtain ⟨d, hd, _⟩ := stepsP_ext l ps
  unfold ιP
  rw [hd, List.idxOf_append, if_pos h]
theorem Gc_congr {ι ι' : Pr → Int} : ∀ {n : Nat} (a b : Tm n), (∀ p ∈ prs a b, ι p = ι' p) → Gc ι a b = Gc ι' a b
  | 0, a, _, _ => Empty.elim a
  | n + 1, a, b, h => by
    cases hap : apart a.tv b.tv with
    | true =>
      rw [prs_apart hap] at h
      rw [Gc_apart hap, Gc_apart hap, h _ (by simp)]
    | false =>
      rw [prs_like hap] at h
      rw [Gc_like hap, Gc_like hap]
      congr 1
      have key : ∀ (l r : List (Tm n)), (∀ p ∈ zf prs l r, ι p = ι' p) → zf (Gc ι) l r = zf (Gc ι') l r := by
        intro l
        induction l with
        | nil => intro r _; cases r <;> rfl
        | cons u l ih =>
          intro r hp
          cases r with
          | nil => rfl
          | cons v r =>
            simp only [zf] at hp ⊢
            rw [Gc_congr u v (fun p hp' => hp p (List.mem_append_left _ hp')), ih r (fun p hp' => hp p (List.mem_append_right _ hp'))]
      exact key _ _ h
theorem zf_congr {ι ι' : Pr → Int} {n : Nat} : ∀ (l r : List (Tm n)), (∀ p ∈ zf prs l r, ι p = ι' p) → zf (Gc ι) l r = zf (Gc ι') l r
  | [], r, _ => by cases r <;> rfl
  | _ :: _, [], _ => rfl
  | u :: l, v :: r, h => by
    simp only [zf] at h ⊢
    rw [Gc_congr u v (fun p hp => h p (List.mem_append_left _ hp)), zf_congr l r (fun p hp => h p (List.mem_append_right _ hp))]
theorem zf_next {α β : Type} {f : α → α → List β} : ∀ (a b : List α) (j : Nat) (u v : α), a[j]? = some u → b[j]? = some v → zf f (a.take (j + 1)) (b.take (j + 1)) = zf f (a.take j) (b.take j) ++ f u v
  | [], _, _, _, _, h, _ => by simp at h
  | _ :: _, [], _, _, _, _, h => by simp at h
  | x :: a, y :: b, 0, u, v, hu, hv => by
    simp at hu hv; subst hu; subst hv
    simp [zf]
  | x :: a, y :: b, j + 1, u, v, hu, hv => by
    simp only [List.getElem?_cons_succ] at hu hv
    simp only [List.take_succ_cons, zf, List.append_assoc]
    rw [← zf_next a b j u v hu hv]
theorem zf_take_le {α β : Type} {f : α → α → List β} : ∀ (a b : List α) (j : Nat), (zf f (a.take j) (b.take j)).length ≤ (zf f a b).length
  | [], _, _ => by simp [zf]
  | _ :: _, [], _ => by simp [zf]
  | x :: a, y :: b, 0 => by simp [zf]
  | x :: a, y :: b, j + 1 => by
    have := zf_take_le (f := f) a b j
    simp only [List.take_succ_cons, zf, List.length_append]
    omega
theorem grb_cells {X : Nat → Prop} {A W : World} (h : GrB X A.heap.size A W) : ∀ k o, k < A.heap.size → ¬ X k → W.cell? ⟨k, o, none⟩ = A.cell? ⟨k, o, none⟩ := fun _ _ hk hx => h.cell hk hx
theorem prs_len : ∀ {n : Nat} (a b : Tm n), (prs a b).length ≤ (code a).length
  | 0, a, _ => Empty.elim a
  | n + 1, a, b => by
    rw [code_kids, List.length_cons]
    cases hap : apart a.tv b.tv with
    | true => rw [prs_apart hap]; simp
    | false =>
      rw [prs_like hap]
      have key : ∀ (l r : List (Tm n)), (zf prs l r).length ≤ (l.flatMap code).length := by
        intro l
        induction l with
        | nil => intro r; cases r <;> simp [zf]
        | cons u l ih =>
          intro r
          cases r with
          | nil => simp [zf]
          | cons v r =>
            have h1 := prs_len u v
            have h2 := ih r
            simp only [zf, List.length_append, List.flatMap_cons]
            omega
      have := key a.kids b.kids
      omega
/-- One slot more, where a state's blocks may have changed. -/
theorem Written.nextX {X : Nat → Prop} {D B j lo : Nat} {W W5 : World} {c c' : List Nd} {len : Nat} {x : TV} (h : Written D B j W c) (hj : j < len) (hr : Row4 W5 B len) (hb : GrB X W.heap.size W W5) (hX : ∀ k, X k → k < B) (hB : B < W.heap.size) (hv : HoldsT D lo W5 x.val c') (hlo : W.heap.size ≤ lo) :
    Written D B (j + 1) (Proofs.YtojefplapklbmaaGreatDoor.set4 W5 B (j * 4) x) (c ++ c') := fun M hM => by
  obtain ⟨ks, hl, hk, hc, hnd⟩ := h M hM
  obtain ⟨u, hu, hT, hN0, hcu⟩ := hv M hM
  have hN : NewW (B + 1) W5 u := hN0.mono (by omega)
  have hux : u.tv = x := by
    simp only [TV.val, Value.agg.injEq] at hu
    simp at hu
    obtain ⟨e1, e2, e3, e4, e5, e6⟩ := hu
    cases hx : u.tv; cases x; simp_all
  refine ⟨ks ++ [u], by simp [hl], fun i z hz => ?_, by simp [hc, hcu], kids_apart (fun i z hz => (hk i z hz).2.2) hnd hN0 hlo⟩
  by_cases hi : i < j
  · rw [List.getElem?_append_left (by omega)] at hz
    obtain ⟨k1, k2, k3⟩ := hk i z hz
    have k1' := k1.kept (hb.block B hB (fun hx => by have := hX B hx; omega))
    refine ⟨?_, ?_, (k3.kept (fun b hb' hlt => hb.block b hlt (fun hx => by have := hX b hx; omega))).kept (fun q hq _ => set4_other W5 B (j * 4) x (by omega))⟩
    · exact ⟨(set4_far W5 B (j * 4) x (by omega)).trans k1'.1, (set4_far W5 B (j * 4) x (by omega)).trans k1'.2.1, (set4_far W5 B (j * 4) x (by omega)).trans k1'.2.2.1, (set4_far W5 B (j * 4) x (by omega)).trans k1'.2.2.2⟩
    · rw [set4_size]
      exact (k2.grb hb (fun k hx => by have := hX k hx; omega) k3.new).from (fun q hq => set4_other W5 B (j * 4) x (by omega)) k3.new
  · rw [List.getElem?_append_right (by omega)] at hz
    have hi2 : i - ks.length = 0 := by
      by_cases e : i - ks.length = 0
      · exact e
      · rw [List.getElem?_eq_none (by simp; omega)] at hz; cases hz
    rw [hi2] at hz
    simp at hz
    subst hz
    obtain rfl : i = j := by omega
    refine ⟨?_, ?_, hN.kept (fun q hq _ => set4_other W5 B (i * 4) x (by omega))⟩
    · rw [hux]
      have g : ∀ q, q < len * 4 → (W5.cell? ⟨B, q, none⟩).isSome = true := fun q hq => by obtain ⟨⟨v, hv⟩, _⟩ := hr.cell hq; rw [hv]; rfl
      exact set4_cells W5 B (i * 4) x (g _ (by omega)) (g _ (by omega)) (g _ (by omega)) (g _ (by omega))
    · rw [set4_size]
      exact hT.from (fun q hq => set4_other W5 B (i * 4) x (by omega)) hN.new

/-- The end of a compound, wherever its row lies. -/
theorem comp_endG {X : Nat → Prop} {D : Nat} {W wr : World} {s : ByteArray} {len rb rc : Nat} {c : List Nd} (hB : GrB X W.heap.size W wr) (hs : s.size ≤ 9223372036854775807) (hl : len ≤ 50) (hrc : W.heap.size ≤ rc) (hrb : rc < rb) (hr : Row4 wr rb len) (hw : Written D rb len wr c) :
    let x : TV := ⟨4, 0, s, some ⟨rb, 0, none⟩, len, len⟩
    GrB X W.heap.size W (set4 wr rc 0 x) ∧ HoldsT (D + 1) W.heap.size (set4 wr rc 0 x) x.val ((4, 0, s.toList, len) :: c) := by
  intro x
  exact ⟨hB.set4 hrc 0 x, (holds_set4 (comp_holds hs hl hr hw (Nat.le_refl rb)) hrb 0 x).mono (Nat.le_refl _) (by omega)⟩

theorem kid_grb {n n₀ : Nat} {w wr : World} {a : Option Addr} {len : Nat} {kids : List (Tm n)} (hkids : kids = [] ∨ ∃ b off, a = some ⟨b, off, none⟩ ∧ b < n₀ ∧ ∀ j u, kids[j]? = some u → cellsAt w b (off + j * 4) u.tv ∧ IsT n₀ w u)
    (hbw : Below n₀ w wr) {j : Nat} (hj : j < len) (hl : len ≤ kids.length) :
    ∃ u b off, kids[j]? = some u ∧ a = some ⟨b, off, none⟩ ∧ cellsAt wr b (off + j * 4) u.tv ∧ IsT n₀ wr u ∧ b < n₀ := by
  obtain ⟨u, hu⟩ : ∃ u, kids[j]? = some u := ⟨kids[j]'(by omega), List.getElem?_eq_getElem (by omega)⟩
  have hne : kids ≠ [] := by rintro rfl; simp at hu
  obtain ⟨b, off, ha, hbk, hk⟩ := hkids.resolve_left hne
  obtain ⟨⟨c0, c1, c2, c3⟩, hT⟩ := hk j u hu
  exact ⟨u, b, off, hu, ha, ⟨(hbw.cell (p := ⟨b, off + j * 4, none⟩) hbk).trans c0, (hbw.cell (p := ⟨b, off + j * 4 + 1, none⟩) hbk).trans c1, (hbw.cell (p := ⟨b, off + j * 4 + 2, none⟩) hbk).trans c2, (hbw.cell (p := ⟨b, off + j * 4 + 3, none⟩) hbk).trans c3⟩, hT.below hbw, hbk⟩

/-- Where generalize's function value leads, and what it keeps. -/
structure Sta (n₀ gb mb : Nat) (W : World) : Prop where
  low : n₀ ≤ mb
  ne : mb ≠ gb
  gb : gb < W.heap.size
  mb : mb < W.heap.size
theorem Sta.up {n₀ gb mb : Nat} {W W' : World} (h : Sta n₀ gb mb W) (hs : W.heap.size ≤ W'.heap.size) : Sta n₀ gb mb W' := ⟨h.low, h.ne, by have := h.gb; omega, by have := h.mb; omega⟩
/-- What generalize says of two terms. -/
def GenSays {n : Nat} (n₀ gb mb : Nat) (a b : Tm n) (ps : List Pr) (W : World) (e : Ending) (W' : World) : Prop :=
  ∃ x : TV, e = .returned x.val ∧ GrB (fun k => k = mb) W.heap.size W W' ∧ Si n₀ gb mb (stepsP ps (prs a b)) W' ∧ HoldsT (n + 1) W.heap.size W' x.val (Gc (ιP (stepsP ps (prs a b))) a b)

set_option maxRecDepth 100000 in
set_option maxHeartbeats 1000000 in
/-- Nothing in common: what stands for the two. -/
theorem gen_apart {n n₀ gb mb : Nat} (a b : Tm (n + 1)) (ps : List Pr) (W : World) (hS : Sta n₀ gb mb W) (hI : Si n₀ gb mb ps W) (ha : IsT n₀ W a) (hb : IsT n₀ W b) (pa : ∀ x ∈ parts a, Pw x) (pb : ∀ x ∈ parts b, Pw x) (hla : (parts a).length ≤ 1000000000) (hlb : (parts b).length ≤ 1000000000) (hps : ps.length ≤ 1000000000) (hap : apart a.tv b.tv = true) :
    Calls Tryz.prog 63 #[a.tv.val, b.tv.val, .func (.func 64) #[] #[.pointer (some ⟨gb, 0, none⟩)]] W fun e W' => GenSays n₀ gb mb a b ps W e W' := by
  have hlow := hS.low
  have hgb := hS.gb
  have hmb := hS.mb
  obtain ⟨W3, hW3, hB3, hba, hbb, hbz, hs3⟩ := three_new W a.tv b.tv
  have hot : Calls Tryz.prog 91 #[a.tv.val, b.tv.val] W3 fun e W4 => e = .returned (.int .i64 (otop a.tv b.tv)) ∧ Below W3.heap.size W3 W4 := otop_any a.tv b.tv W3
  have hst : ∀ W4, Below W3.heap.size W3 W4 → Calls Tryz.prog 64 #[a.tv.val, b.tv.val, .pointer (some ⟨gb, 0, none⟩)] W4 fun e W5 => e = .returned (varV ((stpP ps (code a, code b)).idxOf (code a, code b) : Nat)).val ∧ GrB (fun k => k = mb) W4.heap.size W4 W5 ∧ Si n₀ gb mb (stpP ps (code a, code b)) W5 := fun W4 hb4 => by
    have hbw : Below W.heap.size W W4 := hB3.trans (hb4.mono (by omega))
    exact stand_any a b ps W4 hS.low ⟨by have := hbw.size; omega, by have := hbw.size; omega⟩ hS.ne (si_keep (lo := W.heap.size) (by omega) hgb hmb hI hbw) (ha.below (hbw.mono (by omega))) (hb.below (hbw.mono (by omega))) pa pb hla hlb hps
  have eg := enters_of Tryz.func64 (by kernel_rfl) rfl
  have hgen : prs a b = [(code a, code b)] := prs_apart hap
  have hcode : ∀ ι, Gc ι a b = [varNd (ι (code a, code b))] := fun ι => Gc_apart hap
  have hsp : stepsP ps (prs a b) = stpP ps (code a, code b) := by rw [hgen]; rfl
  have hfin : ∀ (W5 : World), Below W3.heap.size W3 W5 → ∀ W6, GrB (fun k => k = mb) W5.heap.size W5 W6 → Si n₀ gb mb (stpP ps (code a, code b)) W6 → GenSays n₀ gb mb a b ps W (.returned (varV ((stpP ps (code a, code b)).idxOf (code a, code b) : Nat)).val) (set4 W6 (W.heap.size + 2) 0 (varV ((stpP ps (code a, code b)).idxOf (code a, code b) : Nat))) := fun W5 hb5 W6 hg6 hI6 => by
    have h5 := hb5.size
    have h6 := hg6.size
    refine ⟨_, rfl, (((GrB.of_below hB3).trans (GrB.of_below (hb5.mono (by omega)))).trans (hg6.mono (by omega))).set4 (by omega) 0 _, ?_, ?_⟩
    · rw [hsp]; exact si_keep (lo := W.heap.size) (by omega) hgb hmb hI6 (set4_below (Below.refl _ _) (by omega) 0 _)
    · rw [hsp, hcode]; exact (varV_holds _ _ _).mono (by omega) (Nat.le_refl _)
  have a0 := hba.c0
  have a1 := hba.c1
  have a2 := hba.c2
  have a3 := hba.c3
  have b0 := hbb.c0
  have b1 := hbb.c1
  have b2 := hbb.c2
  have b3 := hbb.c3
  have HBA := hide hba
  have HBB := hide hbb
  have HBZ := hide hbz
  have HST := hide hst
  have HFIN := hide hfin
  simp only [TV.val] at hot ⊢
  clear hI ha hb pa pb hgen hcode hsp hba hbb hbz hst hfin
  generalize hp : ((code a, code b) : Pr) = p at HST HFIN
  clear hp
  have hzero := @otop_zero a.tv b.tv
  by_cases hk : a.tv.k = 1
  · have hk1 : (a.tv.k == 1) = true := by simp [hk]
    have hs := (unhide HST) W3 (Below.refl _ _)
    simp only [TV.val] at hs
    clear hk hap hot
    go_enter Tryz.func63, Tryz.ntmps63
    go_wp2_with fail
    refine hs.mono ?_
    clear hs
    rintro e W5 ⟨rfl, hg5, hI5⟩
    have hbz5 : BoxT W5 (W.heap.size + 2) ⟨0, 0, ⟨#[]⟩, none, 0, 0⟩ := (hg5.block _ (by omega) (by omega)).trans (unhide HBZ)
    obtain ⟨⟨z0, z1, z2, z3⟩, y0, y1, y2, y3⟩ := zbox_kept hbz5
    have hf := (unhide HFIN) W3 (Below.refl _ _) W5 hg5 hI5
    have HF := hide hf
    clear hf hg5 hI5 hbz5
    generalize ((stpP ps p).idxOf p : Nat) = M at HF ⊢
    simp only [varV]
    go_wp2_with fail
    exact bodyPost_ret (v := (varV (M : Nat)).val) (by simp [results, Tryz.results63, go_sem, TV.val, varV, z0, z1, z2, z3]) rfl (unhide HF)
  · have hk1 : (a.tv.k == 1) = false := by simp [hk]
    have ho : otop a.tv b.tv ≠ 0 := fun h => by
      have h1 := hzero.1 h
      simp [apart, hk, h1] at hap
    have ho' : (otop a.tv b.tv != 0) = true := by simp [ho]
    generalize otop a.tv b.tv = o at hot ho'
    clear hk hap hzero ho
    go_enter Tryz.func63, Tryz.ntmps63
    go_wp2_with fail
    refine hot.mono ?_
    clear hot a0 a1 a2 a3 b0 b1 b2 b3
    rintro e W4 ⟨rfl, hb4⟩
    have hba4 := (unhide HBA).kept hb4
    have hbb4 := (unhide HBB).kept hb4
    have a0 := hba4.c0
    have a1 := hba4.c1
    have a2 := hba4.c2
    have a3 := hba4.c3
    have b0 := hbb4.c0
    have b1 := hbb4.c1
    have b2 := hbb4.c2
    have b3 := hbb4.c3
    have hs := (unhide HST) W4 hb4
    simp only [TV.val] at hs
    go_wp2_with fail
    refine hs.mono ?_
    clear hs a0 a1 a2 a3 b0 b1 b2 b3
    rintro e W5 ⟨rfl, hg5, hI5⟩
    have hbz5 : BoxT W5 (W.heap.size + 2) ⟨0, 0, ⟨#[]⟩, none, 0, 0⟩ := (hg5.block _ (by have := hb4.size; omega) (by omega)).trans ((hb4.block _ (by omega)).trans (unhide HBZ))
    obtain ⟨⟨z0, z1, z2, z3⟩, y0, y1, y2, y3⟩ := zbox_kept hbz5
    have hf := (unhide HFIN) W4 hb4 W5 hg5 hI5
    have HF := hide hf
    clear hf hg5 hI5 hbz5 hba4 hbb4
    generalize ((stpP ps p).idxOf p : Nat) = M at HF ⊢
    simp only [varV]
    go_wp2_with fail
    exact bodyPost_ret (v := (varV (M : Nat)).val) (by simp [results, Tryz.results63, go_sem, TV.val, varV, z0, z1, z2, z3]) rfl (unhide HF)

set_option maxRecDepth 100000 in
set_option maxHeartbeats 1000000 in
/-- A leaf that both have. -/
theorem gen_leaf {n n₀ gb mb : Nat} (a b : Tm (n + 1)) (ps : List Pr) (W : World) (fv : Value) (hS : Sta n₀ gb mb W) (hI : Si n₀ gb mb ps W) (ha : IsT n₀ W a) (oka : okT a = true) (hap : apart a.tv b.tv = false) (hk4 : ¬ a.tv.k = 4) (hnil : a.kids = []) :
    Calls Tryz.prog 63 #[a.tv.val, b.tv.val, fv] W fun e W' => GenSays n₀ gb mb a b ps W e W' := by
  have hlow := hS.low
  have hgb := hS.gb
  have hmb := hS.mb
  obtain ⟨W3, hW3, hB3, hba, hbb, hbz, hs3⟩ := three_new W a.tv b.tv
  have hot : Calls Tryz.prog 91 #[a.tv.val, b.tv.val] W3 fun e W4 => e = .returned (.int .i64 (otop a.tv b.tv)) ∧ Below W3.heap.size W3 W4 := otop_any a.tv b.tv W3
  obtain ⟨hk1, hnd⟩ := apart_no hap
  have ho : otop a.tv b.tv = 0 := otop_zero.2 (nd_stop.1 hnd)
  rw [ho] at hot
  have hcp : ∀ W4, Below W3.heap.size W3 W4 → Calls Tryz.prog 68 #[a.tv.val] W4 fun e W5 => ∃ x : TV, e = .returned x.val ∧ Below W4.heap.size W4 W5 ∧ HoldsT (n + 1 + 1) W4.heap.size W5 x.val (code a) := fun W4 hb4 => by
    have hbw : Below W.heap.size W W4 := hB3.trans (hb4.mono (by omega))
    exact copy_any a W4 ((ha.below (hbw.mono (by omega))).mono (by have := hbw.size; omega)) oka
  have hprs : prs a b = [] := by rw [prs_like hap, hnil]; cases b.kids <;> rfl
  have hGc : ∀ ι, Gc ι a b = code a := fun ι => by rw [Gc_like hap, hnil, code_kids, hnil]; cases b.kids <;> rfl
  have hfin : ∀ (W4 : World), Below W3.heap.size W3 W4 → ∀ (W5 : World) (x : TV), Below W4.heap.size W4 W5 → HoldsT (n + 1 + 1) W4.heap.size W5 x.val (code a) → GenSays n₀ gb mb a b ps W (.returned x.val) (set4 W5 (W.heap.size + 2) 0 x) := fun W4 hb4 W5 x hb5 hx => by
    have h4 := hb4.size
    have hbw : Below W.heap.size W W5 := (hB3.trans (hb4.mono (by omega))).trans (hb5.mono (by omega))
    refine ⟨x, rfl, (GrB.of_below hbw).set4 (by omega) 0 _, ?_, ?_⟩
    · rw [hprs]; exact si_keep (lo := W.heap.size) (by omega) hgb hmb hI (hbw.trans (set4_below (Below.refl _ _) (by omega) 0 _))
    · rw [hGc]; exact (holds_set4 hx (by omega) 0 x).mono (Nat.le_refl _) (by omega)
  have a0 := hba.c0
  have a1 := hba.c1
  have a2 := hba.c2
  have a3 := hba.c3
  have b0 := hbb.c0
  have b1 := hbb.c1
  have b2 := hbb.c2
  have b3 := hbb.c3
  have hg1 : (a.tv.k == 1) = false := by simp [hk1]
  have hg4 : (a.tv.k != 4) = true := by simp [hk4]
  have HBA := hide hba
  have HBZ := hide hbz
  have HCP := hide hcp
  have HFIN := hide hfin
  simp only [TV.val] at hot ⊢
  clear hI ha oka hap hk4 hk1 hnil hnd ho hprs hGc hba hbb hbz hcp hfin
  go_enter Tryz.func63, Tryz.ntmps63
  go_wp2_with fail
  refine hot.mono ?_
  clear hot a0 a1 a2 a3 b0 b1 b2 b3
  rintro e W4 ⟨rfl, hb4⟩
  have hba4 := (unhide HBA).kept hb4
  have a0 := hba4.c0
  have a1 := hba4.c1
  have a2 := hba4.c2
  have a3 := hba4.c3
  have hc := (unhide HCP) W4 hb4
  simp only [TV.val] at hc
  go_wp2_with fail
  refine hc.mono ?_
  clear hc a0 a1 a2 a3
  rintro e W5 ⟨x, rfl, hb5, hx⟩
  have hbz5 : BoxT W5 (W.heap.size + 2) ⟨0, 0, ⟨#[]⟩, none, 0, 0⟩ := (hb5.block _ (by have := hb4.size; omega)).trans ((hb4.block _ (by omega)).trans (unhide HBZ))
  obtain ⟨⟨z0, z1, z2, z3⟩, y0, y1, y2, y3⟩ := zbox_kept hbz5
  have hf := (unhide HFIN) W4 hb4 W5 x hb5 hx
  have HF := hide hf
  clear hf hb5 hx hbz5 hba4
  go_wp2_with fail
  exact bodyPost_ret (v := x.val) (by simp [results, Tryz.results63, go_sem, TV.val, z0, z1, z2, z3]) rfl (unhide HF)

set_option maxRecDepth 100000 in
set_option maxHeartbeats 2000000 in
/-- A compound of the same name and size. -/
theorem gen_comp {n n₀ gb mb : Nat} (fv : Value)
    (ih : ∀ (u v : Tm n) (ps : List Pr) (W : World), Sta n₀ gb mb W → Si n₀ gb mb ps W → IsT n₀ W u → IsT n₀ W v → okT u = true → (∀ x ∈ parts u, Pw x) → (∀ x ∈ parts v, Pw x) → (parts u).length ≤ 1000000000 → (parts v).length ≤ 1000000000 → ps.length + (prs u v).length ≤ 1000000000 → Calls Tryz.prog 63 #[u.tv.val, v.tv.val, fv] W fun e W' => GenSays n₀ gb mb u v ps W e W')
    (s : ByteArray) (aa : Option Addr) (len cap : Nat) (kids : List (Tm n)) (k' N' : Int) (s' : ByteArray) (aa' : Option Addr) (len' cap' : Nat) (kids' : List (Tm n)) (ps : List Pr) (W : World) (hS : Sta n₀ gb mb W) (hI : Si n₀ gb mb ps W)
    (hs : s.size ≤ 9223372036854775807) (hl50 : len ≤ 50) (hlen : len = kids.length) (hlen' : len = kids'.length) (hll : len = len')
    (hkids : kids = [] ∨ ∃ b off, aa = some ⟨b, off, none⟩ ∧ b < n₀ ∧ ∀ j u, kids[j]? = some u → cellsAt W b (off + j * 4) u.tv ∧ IsT n₀ W u)
    (hkids' : kids' = [] ∨ ∃ b off, aa' = some ⟨b, off, none⟩ ∧ b < n₀ ∧ ∀ j u, kids'[j]? = some u → cellsAt W b (off + j * 4) u.tv ∧ IsT n₀ W u)
    (hok : ∀ u ∈ kids, okT u = true) (pk : ∀ u ∈ kids, ∀ x ∈ parts u, Pw x) (pk' : ∀ u ∈ kids', ∀ x ∈ parts u, Pw x) (lk : ∀ u ∈ kids, (parts u).length ≤ 1000000000) (lk' : ∀ u ∈ kids', (parts u).length ≤ 1000000000)
    (hps : ps.length + (zf prs kids kids').length ≤ 1000000000) (ho : otop ⟨4, 0, s, aa, len, cap⟩ ⟨k', N', s', aa', len', cap'⟩ = 0) :
    Calls Tryz.prog 63 #[.agg #[.int .i64 4, .int .i64 0, .string s, .slice aa len cap], .agg #[.int .i64 k', .int .i64 N', .string s', .slice aa' len' cap'], fv] W fun e W' =>
      ∃ x : TV, e = .returned x.val ∧ GrB (fun k => k = mb) W.heap.size W W' ∧ Si n₀ gb mb (stepsP ps (zf prs kids kids')) W' ∧ HoldsT (n + 1 + 1) W.heap.size W' x.val ((4, 0, s.toList, len) :: zf (Gc (ιP (stepsP ps (zf prs kids kids')))) kids kids') := by
  have hl1 : len ≤ kids.length := by omega
  have hl2 : kids.length ≤ len := by omega
  have hl3 : len ≤ kids'.length := by omega
  have hl4 : kids'.length ≤ len := by omega
  have hl5 : (len : Int) ≤ len' := by omega
  clear hlen hlen' hll
  have hlow := hS.low
  have hgb := hS.gb
  have hmb := hS.mb
  obtain ⟨W3, hW3, hB3, hba, hbb, hbz, hs3⟩ := three_new W ⟨4, 0, s, aa, len, cap⟩ ⟨k', N', s', aa', len', cap'⟩
  have hot : Calls Tryz.prog 91 #[(⟨4, 0, s, aa, len, cap⟩ : TV).val, (⟨k', N', s', aa', len', cap'⟩ : TV).val] W3 fun e W4 => e = .returned (.int .i64 (otop ⟨4, 0, s, aa, len, cap⟩ ⟨k', N', s', aa', len', cap'⟩)) ∧ Below W3.heap.size W3 W4 := otop_any _ _ W3
  rw [ho] at hot
  have a0 := hba.c0
  have a1 := hba.c1
  have a2 := hba.c2
  have a3 := hba.c3
  have b0 := hbb.c0
  have b1 := hbb.c1
  have b2 := hbb.c2
  have b3 := hbb.c3
  simp only [TV.val] at hot a0 a1 a2 a3 b0 b1 b2 b3
  have HIH := hide ih
  have HO := hide hok
  have HPK := hide (And.intro pk (And.intro pk' (And.intro lk lk')))
  have HI := hide hI
  have HS := hide hS
  have HBA := hide hba
  have HBB := hide hbb
  have HBZ := hide hbz
  have hmk := make_terms len hl50
  clear ih hok pk pk' lk lk' hI hS hba hbb hbz ho
  go_enter Tryz.func63, Tryz.ntmps63
  go_wp2_with fail
  refine hot.mono ?_
  clear hot a0 a1 a2 a3 b0 b1 b2 b3
  rintro e W4 ⟨rfl, hb4⟩
  have hba4 := (unhide HBA).kept hb4
  have a0 := hba4.c0
  have a3 := hba4.c3
  simp only at a0 a3
  go_wp2_with fail
  have hs4 := hb4.size
  have hB5 : Below W4.heap.size W4 (W4.alloc (.cells (madeCells #[.int .i64 0, .int .i64 0, .string ⟨#[]⟩, .slice none 0 0] (len * 4)) 24)) := (Below.refl _ W4).alloc (Nat.le_refl _) _
  have hrow5 : Row4 (W4.alloc (.cells (madeCells #[.int .i64 0, .int .i64 0, .string ⟨#[]⟩, .slice none 0 0] (len * 4)) 24)) W4.heap.size len := ⟨_, World.alloc_heap_new W4 _, size_madeCells _ _⟩
  have hs5 : (W4.alloc (.cells (madeCells #[.int .i64 0, .int .i64 0, .string ⟨#[]⟩, .slice none 0 0] (len * 4)) 24)).heap.size = W4.heap.size + 1 := by simp
  obtain ⟨W5, hW5⟩ : ∃ W5, W4.alloc (.cells (madeCells #[.int .i64 0, .int .i64 0, .string ⟨#[]⟩, .slice none 0 0] (len * 4)) 24) = W5 := ⟨_, rfl⟩
  rw [hW5] at hB5 hrow5 hs5 ⊢
  clear hW5 hmk
  have hBW5 : Below W.heap.size W W5 := (hB3.trans (hb4.mono (by omega))).trans (hB5.mono (by omega))
  have hbz5 : BoxT W5 (W.heap.size + 2) ⟨0, 0, ⟨#[]⟩, none, 0, 0⟩ := (hB5.block _ (by omega)).trans ((hb4.block _ (by omega)).trans (unhide HBZ))
  have hba5 := (hB5.block _ hba4.lt).trans hba4
  have hbb5 : BoxT W5 (W.heap.size + 1) ⟨k', N', s', aa', len', cap'⟩ := (hB5.block _ (by omega)).trans ((hb4.block _ (by omega)).trans (unhide HBB))
  have HBZ5 := hide hbz5
  have HBA5 := hide (show BoxT W5 W.heap.size ⟨4, 0, s, aa, len, cap⟩ from hba5)
  have HBB5 := hide hbb5
  have HR5 := hide hrow5
  clear hbz5 hba5 hbb5 hrow5 HBZ HBA HBB a0 a3 hba4
  go_loopw [33] (fun i wr => ∃ j : Nat, j ≤ len ∧ i = .int .i64 j ∧ GrB (fun k => k = mb) W4.heap.size W5 wr ∧ Row4 wr W4.heap.size len ∧ Si n₀ gb mb (stepsP ps (zf prs (kids.take j) (kids'.take j))) wr ∧ Written (n + 1) W4.heap.size j wr (zf (Gc (ιP (stepsP ps (zf prs (kids.take j) (kids'.take j))))) (kids.take j) (kids'.take j))) (fun i _ => len - (intOf i).toNat)
  case atStart => exact ⟨0, Nat.zero_le _, rfl, GrB.refl _ _ _, unhide HR5, si_keep (lo := W.heap.size) (by omega) hgb hmb (unhide HI) hBW5, Written.zero _ _ _⟩
  case round =>
    obtain ⟨j, hj, rfl, hg, hrow, hIj, hwr⟩ := hrel
    have hgw : GrB (fun k => k = mb) W.heap.size W wr := (GrB.of_below hBW5).trans (hg.mono (by omega))
    have hbw : Below n₀ W wr := hgw.below (fun k hx => by omega) (by omega)
    have hsz : W4.heap.size + 1 ≤ wr.heap.size := by have := hg.size; omega
    by_cases hlt : j < len
    · obtain ⟨u, bk, off, hu, rfl, ⟨c0, c1, c2, c3⟩, hT, hbk⟩ := kid_grb hkids hbw hlt hl1
      obtain ⟨v, bk', off', hv, rfl, ⟨d0, d1, d2, d3⟩, hT', hbk'⟩ := kid_grb hkids' hbw hlt hl3
      have hne1 : W.heap.size ≠ mb := by omega
      have hne2 : W.heap.size + 1 ≠ mb := by omega
      have hne3 : bk ≠ mb := by omega
      have hne4 : bk' ≠ mb := by omega
      have hcc : wr.cell? ⟨W.heap.size, 3, none⟩ = some (.slice (some ⟨bk, off, none⟩) len cap) := (hg.cell (by omega) hne1).trans (unhide HBA5).c3
      have hcd : wr.cell? ⟨W.heap.size + 1, 3, none⟩ = some (.slice (some ⟨bk', off', none⟩) len' cap') := (hg.cell (by omega) hne2).trans (unhide HBB5).c3
      have hj1 : (j : Int) < len := by omega
      have hj2 : (j : Int) < len' := by omega
      have hdr : Below wr.heap.size wr wr.drew := (Below.refl _ wr).drew
      have hzn := zf_next (f := prs) kids kids' j u v hu hv
      have hzl : (zf prs (kids.take j) (kids'.take j)).length + (prs u v).length ≤ (zf prs kids kids').length := by
        have h1 := zf_take_le (f := prs) kids kids' (j + 1)
        rw [hzn, List.length_append] at h1
        exact h1
      have hpl : (stepsP ps (zf prs (kids.take j) (kids'.take j))).length + (prs u v).length ≤ 1000000000 := by
        obtain ⟨dd, hd1, hd2⟩ := stepsP_ext (zf prs (kids.take j) (kids'.take j)) ps
        rw [hd1, List.length_append]
        omega
      have hmu := List.mem_of_getElem? hu
      have hmv := List.mem_of_getElem? hv
      have ihu : Calls Tryz.prog 63 #[.agg #[.int .i64 u.tv.k, .int .i64 u.tv.N, .string u.tv.s, .slice u.tv.a u.tv.len u.tv.cap], .agg #[.int .i64 v.tv.k, .int .i64 v.tv.N, .string v.tv.s, .slice v.tv.a v.tv.len v.tv.cap], fv] wr.drew fun e W6 => ∃ x : TV, e = .returned x.val ∧ GrB (fun k => k = mb) wr.heap.size wr W6 ∧ Si n₀ gb mb (stepsP ps (zf prs (kids.take (j + 1)) (kids'.take (j + 1)))) W6 ∧ HoldsT (n + 1) wr.heap.size W6 x.val (Gc (ιP (stepsP ps (zf prs (kids.take (j + 1)) (kids'.take (j + 1))))) u v) := by
        refine ((unhide HIH) u v (stepsP ps (zf prs (kids.take j) (kids'.take j))) wr.drew ((unhide HS).up (Nat.le_trans hgw.size hdr.size)) (si_keep (lo := wr.heap.size) (by omega) (by omega) (by omega) hIj hdr) (hT.below (hdr.mono (by omega))) (hT'.below (hdr.mono (by omega))) ((unhide HO) u hmu) ((unhide HPK).1 u hmu) ((unhide HPK).2.1 v hmv) ((unhide HPK).2.2.1 u hmu) ((unhide HPK).2.2.2 v hmv) hpl).mono fun e W6 h => ?_
        obtain ⟨x, e1, e2, e3, e4⟩ := h
        rw [← stepsP_append, ← hzn] at e3 e4
        exact ⟨x, e1, (GrB.of_below hdr).trans e2, e3, e4⟩
      have hGn : zf (Gc (ιP (stepsP ps (zf prs (kids.take (j + 1)) (kids'.take (j + 1)))))) (kids.take (j + 1)) (kids'.take (j + 1)) = zf (Gc (ιP (stepsP ps (zf prs (kids.take j) (kids'.take j))))) (kids.take j) (kids'.take j) ++ Gc (ιP (stepsP ps (zf prs (kids.take (j + 1)) (kids'.take (j + 1))))) u v := by
        rw [zf_next kids kids' j u v hu hv]
        congr 1
        refine zf_congr _ _ fun p hp => ?_
        rw [hzn, stepsP_append, ιP_stay (stepsP_mem _ _ p hp)]
      have HGN := hide hGn
      have HW := hide hwr
      have HRW := hide hrow
      have hy1 : W.heap.size < wr.heap.size := by omega
      have hy2 : W.heap.size + 1 < wr.heap.size := by omega
      have hy3 : bk < wr.heap.size := by omega
      have hy4 : bk' < wr.heap.size := by omega
      have hq1 : W4.heap.size ≠ W.heap.size := by omega
      have hq2 : W4.heap.size ≠ W.heap.size + 1 := by omega
      have hq3 : W4.heap.size ≠ bk := by omega
      have hq4 : W4.heap.size ≠ bk' := by omega
      have hrl := hrow.lt
      clear hT hT' hkids hkids' hu hv hwr hrow hIj hzn hzl hpl hmu hmv hGn hdr
      simp only [TV.val] at ihu
      go_wp2_with fail
      go_region_held3 (fun w' => w'.cell? ⟨W.heap.size, 3, none⟩ = some (.slice (some ⟨bk, off, none⟩) len cap) ∧ w'.cell? ⟨W.heap.size + 1, 3, none⟩ = some (.slice (some ⟨bk', off', none⟩) len' cap')
        ∧ w'.cell? ⟨bk, off + j * 4, none⟩ = some (.int .i64 u.tv.k) ∧ w'.cell? ⟨bk, off + j * 4 + 1, none⟩ = some (.int .i64 u.tv.N) ∧ w'.cell? ⟨bk, off + j * 4 + 2, none⟩ = some (.string u.tv.s) ∧ w'.cell? ⟨bk, off + j * 4 + 3, none⟩ = some (.slice u.tv.a u.tv.len u.tv.cap)
        ∧ w'.cell? ⟨bk', off' + j * 4, none⟩ = some (.int .i64 v.tv.k) ∧ w'.cell? ⟨bk', off' + j * 4 + 1, none⟩ = some (.int .i64 v.tv.N) ∧ w'.cell? ⟨bk', off' + j * 4 + 2, none⟩ = some (.string v.tv.s) ∧ w'.cell? ⟨bk', off' + j * 4 + 3, none⟩ = some (.slice v.tv.a v.tv.len v.tv.cap)) (go_keep)
        (first | (go_at_call 63; refine ihu.mono ?_; clear ihu; rintro e W6 ⟨x, rfl, hg6, hI6, hx6⟩; have hbc := grb_cells hg6; have hrow6 := (unhide HRW).kept (hg6.block _ hrl (by omega)); obtain ⟨⟨_, z0⟩, y0⟩ := hrow6.cell (o := j * 4) (by omega); obtain ⟨⟨_, z1⟩, y1⟩ := hrow6.cell (o := j * 4 + 1) (by omega); obtain ⟨⟨_, z2⟩, y2⟩ := hrow6.cell (o := j * 4 + 2) (by omega); obtain ⟨⟨_, z3⟩, y3⟩ := hrow6.cell (o := j * 4 + 3) (by omega)))
      have hs6 := hg6.size
      have hfin := (unhide HW).nextX hlt hrow6 hg6 (fun k hx => by omega) hrl hx6 (by omega)
      rw [← unhide HGN] at hfin
      have hfin2 := hrow6.set4 (j * 4) x
      have hfin3 : GrB (fun k => k = mb) W4.heap.size W5 (set4 W6 W4.heap.size (j * 4) x) := (hg.trans (hg6.mono (by omega))).set4 (Nat.le_refl _) _ _
      have hfin4 : Si n₀ gb mb (stepsP ps (zf prs (kids.take (j + 1)) (kids'.take (j + 1)))) (set4 W6 W4.heap.size (j * 4) x) := si_keep (lo := W.heap.size) (by omega) hgb hmb hI6 (set4_below (Below.refl _ _) (by omega) _ _)
      have G1 := hide hfin
      have G2 := hide hfin2
      have G3 := hide hfin3
      have G4 := hide hfin4
      clear hfin hfin2 hfin3 hfin4 hx6 hI6 hrow6 hbc
      go_wp2_with fail
      go_roundw
      case rel => exact ⟨j + 1, by omega, by go_num, unhide G3, unhide G2, unhide G4, unhide G1⟩
      case measure => simp [intOf]; omega
    · have ht : kids.take j = kids := List.take_of_length_le (by omega)
      have ht' : kids'.take j = kids' := List.take_of_length_le (by omega)
      obtain rfl : j = len := by omega
      rw [ht, ht'] at hwr hIj
      have hbz : BoxT wr (W.heap.size + 2) ⟨0, 0, ⟨#[]⟩, none, 0, 0⟩ := (hg.block _ (by omega) (by omega)).trans (unhide HBZ5)
      obtain ⟨⟨z0, z1, z2, z3⟩, y0, y1, y2, y3⟩ := zbox_kept hbz
      have bT : BoxT wr W.heap.size ⟨4, 0, s, aa, j, cap⟩ := (hg.block W.heap.size (by omega) (by omega)).trans (unhide HBA5)
      have x2 := bT.c2
      obtain ⟨f1, f2⟩ := comp_endG (rc := W.heap.size + 2) hgw hs hl50 (by omega) (by omega) hrow hwr
      have f3 := si_keep (lo := W.heap.size) (by omega) hgb hmb hIj (set4_below (Below.refl W.heap.size wr) (b := W.heap.size + 2) (by omega) 0 ⟨4, 0, s, some ⟨W4.heap.size, 0, none⟩, j, j⟩)
      have F1 := hide f1
      have F2 := hide f2
      have F3 := hide f3
      clear f1 f2 f3 hwr ht ht' hkids hkids' hrow hIj hbz bT
      go_wp2_with fail
      exact bodyPost_ret (v := (⟨4, 0, s, some ⟨W4.heap.size, 0, none⟩, j, j⟩ : TV).val) (by simp [results, Tryz.results63, go_sem, TV.val, z0, z1, z2, z3]) rfl ⟨_, rfl, unhide F1, unhide F3, unhide F2⟩

theorem parts_le {n : Nat} {kids : List (Tm n)} {u : Tm n} (h : u ∈ kids) : (parts u).length ≤ (kids.flatMap parts).length := by
  induction kids with
  | nil => cases h
  | cons v kids ih =>
    rw [List.flatMap_cons, List.length_append]
    rcases List.mem_cons.1 h with rfl | h
    · omega
    · have := ih h; omega

/-- term.generalize, whatever the two terms. -/
theorem generalize_any {n₀ gb mb : Nat} : ∀ (n : Nat) (a b : Tm n) (ps : List Pr) (W : World), Sta n₀ gb mb W → Si n₀ gb mb ps W → IsT n₀ W a → IsT n₀ W b → okT a = true → (∀ x ∈ parts a, Pw x) → (∀ x ∈ parts b, Pw x) → (parts a).length ≤ 1000000000 → (parts b).length ≤ 1000000000 → ps.length + (prs a b).length ≤ 1000000000 →
    Calls Tryz.prog 63 #[a.tv.val, b.tv.val, .func (.func 64) #[] #[.pointer (some ⟨gb, 0, none⟩)]] W fun e W' => GenSays n₀ gb mb a b ps W e W' := by
  intro n
  induction n with
  | zero => intro a; exact Empty.elim a
  | succ n ih =>
    intro a b ps W hS hI ha hb oka pa pb hla hlb hps
    cases hap : apart a.tv b.tv with
    | true => exact gen_apart a b ps W hS hI ha hb pa pb hla hlb (by omega) hap
    | false =>
      obtain ⟨hk1, hnd⟩ := apart_no hap
      have hw := oka
      obtain ⟨⟨k, N, s, aa, len, cap⟩, kids⟩ := a
      obtain ⟨⟨k', N', s', aa', len', cap'⟩, kids'⟩ := b
      obtain ⟨hwm, hk⟩ := ok_kids oka
      have ha2 := ha
      have hb2 := hb
      obtain ⟨h1, h2, h3, h4⟩ := ha2
      obtain ⟨h1', h2', h3', h4'⟩ := hb2
      simp only [Tm.tv, Tm.kids] at h1 h2 h3 h4 h1' h2' h3' h4' hwm hk1 hnd
      rcases wm_cases hwm with ⟨rfl, _⟩ | ⟨hk23, rfl⟩ | ⟨rfl, rfl, hl1, hl2⟩
      · exact (hk1 rfl).elim
      · have hnil : kids = [] := List.length_eq_zero_iff.1 h1.symm
        exact gen_leaf _ _ ps W _ hS hI ha oka hap (by show ¬ k = 4; omega) hnil
      · have hll : len = len' := by
          have := congrArg (fun z : Nd => z.2.2.2) hnd
          simpa [TV.nd] using this
        have hz : otop ⟨4, 0, s, aa, len, cap⟩ ⟨k', N', s', aa', len', cap'⟩ = 0 := otop_zero.2 (nd_stop.1 hnd)
        have hpr := prs_like hap
        have hGc : ∀ ι, Gc ι (n := n + 1) ((⟨4, 0, s, aa, len, cap⟩, kids) : TV × List (Tm n)) ((⟨k', N', s', aa', len', cap'⟩, kids') : TV × List (Tm n)) = _ := fun ι => Gc_like (ι := ι) hap
        simp only [Tm.kids] at hpr
        have pka : ∀ u ∈ kids, ∀ x ∈ parts u, Pw x := fun u hu x hx => pa x (List.mem_cons_of_mem _ (List.mem_flatMap.2 ⟨u, hu, hx⟩))
        have pkb : ∀ u ∈ kids', ∀ x ∈ parts u, Pw x := fun u hu x hx => pb x (List.mem_cons_of_mem _ (List.mem_flatMap.2 ⟨u, hu, hx⟩))
        have lka : ∀ u ∈ kids, (parts u).length ≤ 1000000000 := fun u hu => Nat.le_trans (parts_le hu) (Nat.le_trans (by show (kids.flatMap parts).length ≤ (_ :: kids.flatMap parts).length; simp) hla)
        have lkb : ∀ u ∈ kids', (parts u).length ≤ 1000000000 := fun u hu => Nat.le_trans (parts_le hu) (Nat.le_trans (by show (kids'.flatMap parts).length ≤ (_ :: kids'.flatMap parts).length; simp) hlb)
        refine (gen_comp (.func (.func 64) #[] #[.pointer (some ⟨gb, 0, none⟩)]) ih s aa len cap kids k' N' s' aa' len' cap' kids' ps W hS hI h3 hl2 h1 (by omega) hll h4 h4' hk pka pkb lka lkb (by rw [← hpr]; exact hps) hz).mono fun e W' h => ?_
        obtain ⟨x, e1, e2, e3, e4⟩ := h
        refine ⟨x, e1, e2, by rw [hpr]; exact e3, ?_⟩
        rw [hpr, hGc]
        exact e4
end Go.Proofs.YtojefplapklbmaaGreatDoor

