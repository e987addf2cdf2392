import Derived.Test.YtffbhinpmlcopabArYa
import Derived.Test.YtffbhinpmlcopabUs
/- What is put in for variables, and what is folded, as terms: folding changes no number. -/
namespace Go.Proofs.Ytffbhinpmlcopab
open Go.RowKit Go.Shelf

def liftBy {d : Nat} : (m : Nat) → Tm d → Tm (d + m)
  | 0, t => t
  | m + 1, t => (liftBy m t).lift
theorem liftBy_code {d : Nat} : ∀ (m : Nat) (t : Tm d), code (liftBy m t) = code t
  | 0, _ => rfl
  | m + 1, t => (lift_code _).trans (liftBy_code m t)
theorem lift_wl : ∀ {n : Nat} {t : Tm n}, Wl t → Wl t.lift := by
  intro n
  induction n with
  | zero => intro t; exact Empty.elim t
  | succ n ih =>
    intro t ht
    obtain ⟨x, kids⟩ := t
    obtain ⟨h1, h2⟩ := ht
    refine ⟨?_, fun u hu => ?_⟩
    · show x.len = (kids.map Tm.lift).length
      rw [List.length_map]; exact h1
    · have hu' : u ∈ kids.map Tm.lift := hu
      obtain ⟨v, hv, rfl⟩ := List.mem_map.1 hu'
      exact ih (h2 v hv)
theorem liftBy_wl {d : Nat} : ∀ (m : Nat) {t : Tm d}, Wl t → Wl (liftBy m t)
  | 0, _, h => h
  | m + 1, _, h => lift_wl (liftBy_wl m h)
theorem evL_map {α β : Type} {f : α → Except (List Nd) Int} {g : β → α} : ∀ l : List β, evL f (l.map g) = evL (fun x => f (g x)) l
  | [] => rfl
  | x :: l => by simp only [List.map_cons, evL, evL_map l]
theorem evL_congr {α : Type} {f g : α → Except (List Nd) Int} : ∀ {l : List α}, (∀ x ∈ l, f x = g x) → evL f l = evL g l
  | [], _ => rfl
  | x :: l, h => by simp only [evL]; rw [h x (by simp), evL_congr (l := l) fun y hy => h y (by simp [hy])]
theorem lift_ev : ∀ {n : Nat} (t : Tm n), evT t.lift = evT t := by
  intro n
  induction n with
  | zero => intro t; exact Empty.elim t
  | succ n ih =>
    intro t
    obtain ⟨x, kids⟩ := t
    show nodeR x (evL evT (kids.map Tm.lift)) = nodeR x (evL evT kids)
    rw [evL_map, evL_congr fun u _ => ih u]
theorem liftBy_ev {d : Nat} : ∀ (m : Nat) (t : Tm d), evT (liftBy m t) = evT t
  | 0, _ => rfl
  | m + 1, t => (lift_ev _).trans (liftBy_ev m t)
theorem nodeR_nd {x y : TV} (h : x.nd = y.nd) (r : Except (List Nd) (List Int)) : nodeR x r = nodeR y r := by
  simp only [TV.nd, Prod.mk.injEq] at h
  obtain ⟨h1, h2, h3, h4⟩ := h
  unfold nodeR
  rw [h1, h2, h3, h4]
theorem evT_same : ∀ {n : Nat} {x y : Tm n}, sameT x y = true → evT x = evT y := by
  intro n
  induction n with
  | zero => intro x; exact Empty.elim x
  | succ n ih =>
    intro x y h
    obtain ⟨x, kx⟩ := x
    obtain ⟨y, ky⟩ := y
    simp only [sameT, Tm.tv, Tm.kids, Bool.and_eq_true] at h
    obtain ⟨h1, h2⟩ := h
    rw [evT_succ, evT_succ, nodeR_nd (nd_stop.2 h1)]
    have key : ∀ (a b : List (Tm n)), all2 sameT a b = true → evL evT a = evL evT b := by
      intro a
      induction a with
      | nil =>
        intro b hb
        cases b with
        | nil => rfl
        | cons v b => simp [all2] at hb
      | cons u a iha =>
        intro b hb
        cases b with
        | nil => simp [all2] at hb
        | cons v b =>
          simp only [all2, Bool.and_eq_true] at hb
          simp only [evL]
          rw [ih hb.1, iha b hb.2]
    rw [key kx ky h2]
/-- Terms of one code have one number. -/
theorem evT_code {n : Nat} {x y : Tm n} (hx : Wl x) (hy : Wl y) (h : code x = code y) : evT x = evT y :=
  evT_same (by rw [sameT_code hx hy, h]; simp)

/-- A term with terms in the place of its variables. -/
def subT {d : Nat} (σ : Int → Tm d) : {n : Nat} → Tm n → Tm (d + n)
  | 0, t => Empty.elim t
  | k + 1, t => if t.tv.k = 1 then liftBy (k + 1) (σ t.tv.N) else ((t.tv, t.kids.map (subT σ)) : TV × List (Tm (d + k)))
theorem subT_var {d n : Nat} {σ : Int → Tm d} {x : TV} {kids : List (Tm n)} (h : x.k = 1) : subT σ (n := n + 1) ((x, kids) : TV × List (Tm n)) = liftBy (n + 1) (σ x.N) := if_pos h
theorem subT_not {d n : Nat} {σ : Int → Tm d} {x : TV} {kids : List (Tm n)} (h : x.k ≠ 1) : subT σ (n := n + 1) ((x, kids) : TV × List (Tm n)) = ((x, kids.map (subT σ)) : TV × List (Tm (d + n))) := if_neg h
theorem leaf_kids {n : Nat} {x : TV} {kids : List (Tm n)} (hw : Wl (n := n + 1) ((x, kids) : TV × List (Tm n))) (hok : okT (n := n + 1) ((x, kids) : TV × List (Tm n)) = true) (hk : x.k ≠ 4) : x.len = 0 ∧ kids = [] := by
  obtain ⟨hwm, -⟩ := ok_kids hok
  have h0 : x.len = 0 := by rcases wm_cases hwm with ⟨_, _, _, _, h⟩ | ⟨_, h⟩ | ⟨h, _⟩ <;> first | exact h | (exfalso; omega)
  have hl : x.len = kids.length := hw.1
  exact ⟨h0, List.length_eq_zero_iff.1 (by omega)⟩
theorem sub_code {d : Nat} (σ : Int → Tm d) : ∀ {n : Nat} {t : Tm n}, Wl t → okT t = true → code (subT σ t) = (code t).flatMap (subN fun N => code (σ N)) := by
  intro n
  induction n with
  | zero => intro t; exact Empty.elim t
  | succ n ih =>
    intro t hw hok
    obtain ⟨x, kids⟩ := t
    rw [code_succ, List.flatMap_cons]
    by_cases h1 : x.k = 1
    · obtain ⟨-, hk⟩ := leaf_kids hw hok (by omega)
      rw [subT_var h1, liftBy_code, hk]
      simp [subN, TV.nd, h1]
    · rw [subT_not h1]
      show code (n := d + n + 1) ((x, kids.map (subT σ)) : TV × List (Tm (d + n))) = _
      rw [code_succ, List.flatMap_map]
      have h0 : subN (fun N => code (σ N)) x.nd = [x.nd] := by simp [subN, TV.nd, h1]
      rw [h0]
      have hk := (ok_kids hok).2
      have : ∀ l : List (Tm n), (∀ u ∈ l, Wl u ∧ okT u = true) → (l.flatMap fun u => code (subT σ u)) = (l.flatMap code).flatMap (subN fun N => code (σ N)) := by
        intro l
        induction l with
        | nil => intro _; rfl
        | cons u l ihl =>
          intro hl
          rw [List.flatMap_cons, List.flatMap_cons, List.flatMap_append, ih (hl u (by simp)).1 (hl u (by simp)).2, ihl fun v hv => hl v (by simp [hv])]
      rw [this kids fun u hu => ⟨hw.2 u hu, hk u hu⟩]
      rfl
theorem sub_wl {d : Nat} {σ : Int → Tm d} (hσ : ∀ N, Wl (σ N)) : ∀ {n : Nat} {t : Tm n}, Wl t → Wl (subT σ t) := by
  intro n
  induction n with
  | zero => intro t; exact Empty.elim t
  | succ n ih =>
    intro t hw
    obtain ⟨x, kids⟩ := t
    by_cases h1 : x.k = 1
    · rw [subT_var h1]
      exact liftBy_wl _ (hσ _)
    · rw [subT_not h1]
      refine ⟨?_, fun u hu => ?_⟩
      · show x.len = (kids.map (subT σ)).length
        rw [List.length_map]; exact hw.1
      · have hu' : u ∈ kids.map (subT σ) := hu
        obtain ⟨v, hv, rfl⟩ := List.mem_map.1 hu'
        exact ih (hw.2 v hv)
theorem evL_oks {α β : Type} {f : α → Except (List Nd) Int} {g : β → Except (List Nd) Int} {h : α → β} : ∀ {l : List α}, (∀ x ∈ l, ∀ m, f x = .ok m → g (h x) = .ok m) → ∀ {ns : List Int}, evL f l = .ok ns → evL g (l.map h) = .ok ns
  | [], _, ns, e => by cases e; rfl
  | x :: l, hx, ns, e => by
    simp only [evL] at e
    cases h1 : f x with
    | error c => rw [h1] at e; cases e
    | ok m =>
      rw [h1] at e
      cases h2 : evL f l with
      | error c => rw [h2] at e; cases e
      | ok ms =>
        rw [h2] at e
        simp only [List.map_cons, evL]
        rw [hx x (by simp) m h1, evL_oks (l := l) (fun y hy => hx y (by simp [hy])) h2]
        exact e
/-- A number that a term has stays, whatever stands for its variables. -/
theorem ev_closed {d : Nat} (σ : Int → Tm d) : ∀ {n : Nat} {t : Tm n} {m : Int}, evT t = .ok m → evT (subT σ t) = .ok m := by
  intro n
  induction n with
  | zero => intro t; exact Empty.elim t
  | succ n ih =>
    intro t m he
    obtain ⟨x, kids⟩ := t
    rw [evT_succ] at he
    unfold nodeR at he
    by_cases h2 : x.k = 2
    · rw [if_pos h2] at he
      rw [subT_not (by omega)]
      show nodeR x _ = _
      unfold nodeR
      rw [if_pos h2]
      exact he
    · rw [if_neg h2] at he
      by_cases h1 : x.k = 1
      · rw [if_pos h1] at he; cases he
      · rw [if_neg h1] at he
        rw [subT_not h1]
        show nodeR x (evL evT (kids.map (subT σ))) = _
        unfold nodeR
        rw [if_neg h2, if_neg h1]
        cases ho : opOf x.s.toList x.len with
        | none => rw [ho] at he; cases he
        | some f =>
          rw [ho] at he
          simp only at he ⊢
          cases hl : evL evT kids with
          | error c => rw [hl] at he; cases he
          | ok ns =>
            rw [hl] at he
            rw [evL_oks (g := evT) (fun u _ k hk => ih hk) hl]
            exact he
def foldE {n : Nat} (r : Except (List Nd) Int) (b : TV × List (Tm n)) : TV × List (Tm n) :=
  match r with
  | .ok m => (intV m, [])
  | .error _ => b
/-- What a term is folded to. -/
def foldT : {n : Nat} → Tm n → Tm n
  | 0, t => Empty.elim t
  | n + 1, t => if t.tv.k = 4 then foldE (evT (n := n + 1) t) (⟨4, 0, t.tv.s, t.tv.a, t.tv.len, t.tv.cap⟩, t.kids.map foldT) else ((⟨t.tv.k, t.tv.N, t.tv.s, none, 0, 0⟩, []) : TV × List (Tm n))
theorem foldT_leaf {n : Nat} {x : TV} {kids : List (Tm n)} (h : x.k ≠ 4) : foldT (n := n + 1) ((x, kids) : TV × List (Tm n)) = ((⟨x.k, x.N, x.s, none, 0, 0⟩, []) : TV × List (Tm n)) := if_neg h
theorem foldT_ok {n : Nat} {x : TV} {kids : List (Tm n)} (h : x.k = 4) {m : Int} (he : evT (n := n + 1) ((x, kids) : TV × List (Tm n)) = .ok m) : foldT (n := n + 1) ((x, kids) : TV × List (Tm n)) = ((intV m, []) : TV × List (Tm n)) :=
  (if_pos h).trans (by rw [he]; rfl)
theorem foldT_err {n : Nat} {x : TV} {kids : List (Tm n)} (h : x.k = 4) {c : List Nd} (he : evT (n := n + 1) ((x, kids) : TV × List (Tm n)) = .error c) : foldT (n := n + 1) ((x, kids) : TV × List (Tm n)) = ((⟨4, 0, x.s, x.a, x.len, x.cap⟩, kids.map foldT) : TV × List (Tm n)) :=
  (if_pos h).trans (by rw [he]; rfl)
theorem fold_code : ∀ {n : Nat} (t : Tm n), code (foldT t) = foldC t := by
  intro n
  induction n with
  | zero => intro t; exact Empty.elim t
  | succ n ih =>
    intro t
    obtain ⟨x, kids⟩ := t
    by_cases h4 : x.k = 4
    · rw [foldC_comp h4]
      cases he : evT (n := n + 1) ((x, kids) : TV × List (Tm n)) with
      | ok m =>
        rw [foldT_ok h4 he, code_succ]
        simp [foldV, intC, TV.nd, intV]
      | error c =>
        rw [foldT_err h4 he, code_succ, List.flatMap_map]
        simp only [foldV, TV.nd]
        rw [show (fun u : Tm n => code (foldT u)) = foldC from funext fun u => ih u]
    · rw [foldC_leaf h4, foldT_leaf h4, code_succ]
      simp [TV.nd]
theorem fold_wl : ∀ {n : Nat} {t : Tm n}, Wl t → Wl (foldT t) := by
  intro n
  induction n with
  | zero => intro t; exact Empty.elim t
  | succ n ih =>
    intro t hw
    obtain ⟨x, kids⟩ := t
    by_cases h4 : x.k = 4
    · cases he : evT (n := n + 1) ((x, kids) : TV × List (Tm n)) with
      | ok m =>
        rw [foldT_ok h4 he]
        exact ⟨rfl, fun u hu => by cases hu⟩
      | error c =>
        rw [foldT_err h4 he]
        refine ⟨?_, fun u hu => ?_⟩
        · show x.len = (kids.map foldT).length
          rw [List.length_map]; exact hw.1
        · have hu' : u ∈ kids.map foldT := hu
          obtain ⟨v, hv, rfl⟩ := List.mem_map.1 hu'
          exact ih (hw.2 v hv)
    · rw [foldT_leaf h4]
      exact ⟨rfl, fun u hu => by cases hu⟩
/-- FOLDING CHANGES NOTHING. -/
theorem fold_sub {d : Nat} (σ : Int → Tm d) : ∀ {n : Nat} {t : Tm n}, Wl t → okT t = true → evT (subT σ (foldT t)) = evT (subT σ t) := by
  intro n
  induction n with
  | zero => intro t; exact Empty.elim t
  | succ n ih =>
    intro t hw hok
    obtain ⟨x, kids⟩ := t
    by_cases h4 : x.k = 4
    · cases he : evT (n := n + 1) ((x, kids) : TV × List (Tm n)) with
      | ok m =>
        rw [ev_closed σ he, foldT_ok h4 he, subT_not (by simp [intV])]
        show nodeR (intV m) _ = _
        simp [nodeR, intV]
      | error c =>
        rw [foldT_err h4 he, subT_not (by simp), subT_not (by omega)]
        show nodeR _ (evL evT ((kids.map foldT).map (subT σ))) = nodeR x (evL evT (kids.map (subT σ)))
        have hk := (ok_kids hok).2
        have : evL evT ((kids.map foldT).map (subT σ)) = evL evT (kids.map (subT σ)) := by
          rw [evL_map, evL_map, evL_map]
          exact evL_congr fun u hu => ih (hw.2 u hu) (hk u hu)
        rw [this]
        show nodeR ⟨4, 0, x.s, x.a, x.len, x.cap⟩ _ = nodeR x _
        unfold nodeR
        simp [h4]
    · obtain ⟨h0, hk⟩ := leaf_kids hw hok h4
      rw [foldT_leaf h4]
      subst hk
      by_cases h1 : x.k = 1
      · rw [subT_var (x := x) h1, subT_var (x := ⟨x.k, x.N, x.s, none, 0, 0⟩) h1]
      · rw [subT_not (x := x) h1, subT_not (x := ⟨x.k, x.N, x.s, none, 0, 0⟩) h1]
        show nodeR ⟨x.k, x.N, x.s, none, 0, 0⟩ _ = nodeR x _
        exact nodeR_nd (by simp [TV.nd, h0]) _
end Go.Proofs.Ytffbhinpmlcopab

