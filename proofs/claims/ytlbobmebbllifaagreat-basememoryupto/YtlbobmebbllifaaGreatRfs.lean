import Derived.RangeFuncNested
import Derived.RangeFuncBound
import Derived.RangeFuncCalls
import Derived.RangeFuncLeaves
import Derived.Below
import Derived.WalkKit
import Derived.WalkLawsBesides
import Derived.WalkSpells
import Derived.Test.YtlbobmebbllifaaGreatProg
import Derived.Shelf.Abstract
import Derived.Shelf.RegionOpen
import Derived.OwnWalkIn
import Derived.TacticsInMore
import Derived.LoopNIn
import Derived.LoopIn
/- A range over a function whose iterator keeps rows of a kind of its own, and writes them between two rounds: what each side promises, and the law of the statement. -/
namespace Go.Proofs.YtlbobmebbllifaaGreat
open Go.RowKit
def ofK (k : TypeId) : Obj → Bool
 | .cells _ e _ => e == k
 | _ => false
def AbC {β : Type} (k : TypeId) (B : Nat) (J : β → World → Prop) : Prop :=
 ∀ s W W' row, J s W → W.grownBy W' row → (∀ r, row = some r → B ≤ r ∧ ∃ o : Obj, W.heap[r]? = some o ∧ (o.isWalk = true ∨ ofK k o = true)) → J s W'
def OwC {β : Type} (k : TypeId) (B : Nat) (I : β → World → Prop) : Prop :=
 ∀ s W W' row, I s W → W.grownBy W' row → (∀ r, row = some r → B ≤ r ∧ ∃ o : Obj, W.heap[r]? = some o ∧ (o.isCells = false ∨ ofK k o = true)) → I s W'
theorem owC_pure {β : Type} (k : TypeId) (B : Nat) (p : β → Prop) : OwC k B (fun s (_ : World) => p s) := fun _ _ _ _ hs _ _ => hs
theorem OwC.and {β : Type} {k : TypeId} {B : Nat} {I J : β → World → Prop} (hI : OwC k B I) (hJ : OwC k B J) : OwC k B (fun s W => I s W ∧ J s W) := fun s W W' row hs hg hr => ⟨hI s W W' row hs.1 hg hr, hJ s W W' row hs.2 hg hr⟩
theorem owC_below {β : Type} {k : TypeId} {n₀ B : Nat} {w : World} (h1 : n₀ ≤ B) (h2 : n₀ ≤ w.heap.size) : OwC k B (fun (_ : β) W => Below n₀ w W) := fun _ _ _ _ hs hg hr =>
 hs.grown hg (Nat.le_trans h2 hs.size) (fun r e => Nat.le_trans h1 (hr r e).1)
theorem kept_otherK {k : TypeId} {B : Nat} {W W' : World} {row : Option Nat} (hg : W.grownBy W' row) (hr : ∀ r, row = some r → B ≤ r ∧ ∃ o : Obj, W.heap[r]? = some o ∧ (o.isCells = false ∨ ofK k o = true)) {i : Nat} {o : Obj} (hi : W.heap[i]? = some o) (hc : o.isCells = true) (hk : ofK k o = false) : W'.heap[i]? = some o := by
 refine (hg.block i (Array.getElem?_eq_some_iff.1 hi).1 (fun e => ?_)).trans hi
 obtain ⟨_, o', ho', h⟩ := hr i e.symm
 rw [hi] at ho'
 cases ho'
 rcases h with h | h
 ·rw [hc] at h; cases h
 ·rw [hk] at h; cases h
theorem owC_boxed {β : Type} (k : TypeId) (B : Nat) (i : Nat) (t : TypeId) (f : β → Value) (hk : (t == k) = false) : OwC k B (fun s W => Boxed W i t (f s)) := fun _ _ _ _ hs hg hr => kept_otherK hg hr (show _ = _ from hs) rfl hk
theorem OwC.alloc {β : Type} {k : TypeId} {B : Nat} {I : β → World → Prop} (h : OwC k B I) {s : β} {W : World} (hs : I s W) (o : Obj) : I s (W.alloc o) := h s W _ none hs (World.grownBy_alloc W o none) (fun r e => by cases e)
theorem OwC.put {β : Type} {k : TypeId} {B : Nat} {I : β → World → Prop} (h : OwC k B I) {s : β} {W : World} (hs : I s W) {l : Nat} {o : Obj} (hl : W.heap[l]? = some o) (hB : B ≤ l) (ho : o.isCells = false) (o' : Obj) : I s (W.putObj l o') :=
 h s W _ (some l) hs (grownBy_putObj' W l o') (fun r e => by cases e; exact ⟨hB, o, hl, .inl ho⟩)
theorem kept_plain {k : TypeId} {B : Nat} {W W' : World} {row : Option Nat} (hg : W.grownBy W' row) (hr : ∀ r, row = some r → B ≤ r ∧ ∃ o : Obj, W.heap[r]? = some o ∧ (o.isWalk = true ∨ ofK k o = true)) {i : Nat} {o : Obj} (hi : W.heap[i]? = some o) (hw : o.isWalk = false) (hk : ofK k o = false) : W'.heap[i]? = some o := by
 refine (hg.block i (Array.getElem?_eq_some_iff.1 hi).1 (fun e => ?_)).trans hi
 obtain ⟨_, o', ho', h⟩ := hr i e.symm
 rw [hi] at ho'
 cases ho'
 rcases h with h | h
 ·rw [hw] at h; cases h
 ·rw [hk] at h; cases h
theorem not_cells_or {k : TypeId} {o : Obj} (h : o.isWalk = true ∨ ofK k o = true) : o.isCells = false ∨ ofK k o = true := h.imp Obj.not_cells_of_walk id
def SeqC {α : Type} (k : TypeId) (F : Fence) (n : Nat) (P : Program) (g : Nat) (lb : Array Value) (encs : α → Array Value) (Kp : World → World → Prop) (S Sp : List α → Prop) (N : Nat) (w : World) : Prop :=
 ∀ (l : Nat) (J Jx : List α → World → Prop) (W : World), Below w.heap.size w W → AbC k W.heap.size J → AbC k W.heap.size Jx →
  (∀ pre x W1, J pre W1 → pre.length < N → YieldAt F (n - 1) P l (encs x) W1 fun e W' =>
   (e = .returned (.bool true) ∧ J (pre ++ [x]) W' ∧ Kp W1 W') ∨ (e = .returned (.bool false) ∧ Jx (pre ++ [x]) W')) →
  J [] W →
  CallsIn F n P g (#[.func (.yield l) #[] #[]] ++ lb) W fun e W' => (∃ v, e = .returned v) ∧ ((∃ xs, S xs ∧ J xs W') ∨ (∃ pre, Sp pre ∧ Jx pre W'))
theorem yield_round {α : Type} {k : TypeId} {F : Fence} {m : Nat} {P : Program} {ps : Array Tmp} {assign body : Code} {tmps : Array Value} {fn : FuncId} {B : Nat} (hfn : F.fn fn) {encs : α → Array Value} {Kp : World → World → Prop} {N : Nat}
  (hKt : ∀ {A B C : World}, Kp A B → Kp B C → Kp A C) (hKb : ∀ (W : World) (l : Nat) (o o' : Obj), B ≤ l → W.heap[l]? = some o → o.isCells = false → o.isWalk = false → Kp W (W.putObj l o')) (hps : ∀ x, (encs x).size = ps.size)
  {I : List α → World → Prop} {Ix : Code → List α → World → Prop} (hI : OwC k B I) (hIx : ∀ c, OwC k B (Ix c)) {Ax : α → Act → World → Prop} (hAx : ∀ x a', OwC k B (fun (_ : Unit) W => Ax x a' W))
  (hassign : ∀ (l : Nat) (pre : List α) (x : α) (W : World) (K : Act → World → Prop), I pre W → (∀ a' W', KeepsFrom B W W' → Kp W W' → I pre W' → Ax x a' W' → K a' W') →
   assign.wpIn (F.inRound l) m P (Exit.then K (fun _ _ _ => False)) { tmps := (ps.zip (encs x)).foldl (fun t (p, v) => t.setIfInBounds p v) tmps, defers := [] } W)
  (hbody : ∀ (l : Nat) (pre : List α) (x : α) (a' : Act) (W : World), B ≤ l → (∃ r, W.heap[l]? = some (.loop r)) → I pre W → Ax x a' W → pre.length < N → body.wpIn (F.inRound l) m P (ownPostG B Kp I Ix (pre ++ [x]) W) a' W)
  (R : LoopState → Option Code → Loop) (hR : R = fun st pe => { state := st, pending := pe, fn := fn, tmps := tmps, params := ps, assign := assign, body := body, defers := B })
  (pre : List α) (x : α) (W : World) (hi : I pre W) (hl : W.heap[B + 1]? = some (.loop (R .ready none))) (hd : W.heap[B]? = some (.deferred (some []))) (hN : pre.length < N) :
  YieldAt F m P (B + 1) (encs x) W fun e W' =>
   (e = .returned (.bool true) ∧ (I (pre ++ [x]) W' ∧ W'.heap[B + 1]? = some (.loop (R .ready none)) ∧ W'.heap[B]? = some (.deferred (some []))) ∧ Kp W W') ∨
   (e = .returned (.bool false) ∧ ∃ c, Ix c (pre ++ [x]) W' ∧ W'.heap[B + 1]? = some (.loop (R .done (some c))) ∧ W'.heap[B]? = some (.deferred (some []))) := by
 have hy := run_yield (P := P) (args := encs x) hl (by rw [hR]; exact hps x)
 refine ⟨_, _, _, _, hy, ?_⟩
 subst hR
 refine roundIn_of_wpIn hfn (hassign _ pre x W _ hi fun a' V hkf hkp hiV hax => ?_)
 have l1 := hkf.same _ _ (Nat.le_succ B) hl rfl
 have d1 := hkf.same _ _ (Nat.le_refl B) hd rfl
 refine ⟨_, run_beginRound l1 rfl, ?_⟩
 generalize hbu : (Obj.loop { ({ state := .ready, pending := none, fn := fn, tmps := tmps, params := ps, assign := assign, body := body, defers := B } : Loop) with state := .busy }) = ob
 have hlt : B + 1 < V.heap.size := (Array.getElem?_eq_some_iff.1 l1).1
 have l2 : (V.putObj (B + 1) ob).heap[B + 1]? = some ob := World.putObj_heap_same hlt
 have d2 : (V.putObj (B + 1) ob).heap[B]? = some (.deferred (some [])) := (World.putObj_heap_other (by omega)).trans d1
 have kp1 : Kp W (V.putObj (B + 1) ob) := hKt hkp (hKb _ _ _ _ (Nat.le_succ B) l1 rfl rfl)
 refine wpIn_mono (hbody (B + 1) pre x a' _ (Nat.le_succ B) ⟨_, by rw [← hbu] at l2 ⊢; exact l2⟩ (hI.put hiV l1 (Nat.le_succ B) rfl _) ((hAx x a').put (s := ()) hax l1 (Nat.le_succ B) rfl _) hN) fun e a3 V3 hp => ?_
 have fin : KeepsFrom B (V.putObj (B + 1) ob) V3 → ∀ jump : Option Code, ∃ o', (o' = Obj.loop { state := if jump.isNone then LoopState.ready else LoopState.done, pending := jump, fn := fn, tmps := tmps, params := ps, assign := assign, body := body, defers := B }) ∧
   (Instr.endRound (B + 1) jump).run P V3 = .ok (.bool jump.isNone) (V3.putObj (B + 1) o') ∧ V3.heap[B + 1]? = some ob ∧ (V3.putObj (B + 1) o').heap[B + 1]? = some o' ∧ (V3.putObj (B + 1) o').heap[B]? = some (.deferred (some [])) := fun hk jump => by
  have l3 := hk.same _ _ (Nat.le_succ B) l2 (by rw [← hbu]; rfl)
  have l3' := l3
  rw [← hbu] at l3'
  exact ⟨_, rfl, run_endRound jump l3', l3, World.putObj_heap_same (Array.getElem?_eq_some_iff.1 l3).1, (World.putObj_heap_other (by omega)).trans (hk.same _ _ (Nat.le_refl B) d2 rfl)⟩
 have hoc : ob.isCells = false := by rw [← hbu]; rfl
 have how : ob.isWalk = false := by rw [← hbu]; rfl
 cases e with
 | normal =>
  obtain ⟨o', ho', r1, r2, r3, r4⟩ := fin hp.1 none
  exact ⟨_, _, r1, .inl ⟨rfl, ⟨hI.put hp.2.2 r2 (Nat.le_succ B) hoc _, by rw [r3, ho']; rfl, r4⟩, hKt kp1 (hKt hp.2.1 (hKb _ _ _ _ (Nat.le_succ B) r2 hoc how))⟩⟩
 | ret =>
  obtain ⟨o', ho', r1, r2, r3, r4⟩ := fin hp.1 (some .ret)
  exact ⟨_, _, r1, .inr ⟨rfl, _, (hIx _).put hp.2 r2 (Nat.le_succ B) hoc _, by rw [r3, ho']; rfl, r4⟩⟩
 | exit id =>
  obtain ⟨o', ho', r1, r2, r3, r4⟩ := fin hp.1 (some (.exit id))
  exact ⟨_, _, r1, .inr ⟨rfl, _, (hIx _).put hp.2 r2 (Nat.le_succ B) hoc _, by rw [r3, ho']; rfl, r4⟩⟩
 | goto t =>
  obtain ⟨o', ho', r1, r2, r3, r4⟩ := fin hp.1 (some (.goto t))
  exact ⟨_, _, r1, .inr ⟨rfl, _, (hIx _).put hp.2 r2 (Nat.le_succ B) hoc _, by rw [r3, ho']; rfl, r4⟩⟩
 | panic ch => exact hp.elim
 | outgrown => exact hp.elim
theorem rangeC {α : Type} {k : TypeId} {F : Fence} {n : Nat} {P : Program} {g : Operand} {ps : Array Tmp} {assign body : Code} {Q : Exit → Act → World → Prop} {a : Act} {w : World}
  (hro : F.round = none) (h1 : 1 ≤ n) {gf : Nat} {lb : Array Value} (hg : a.eval g = .func (.func gf) #[] lb) (hFg : F.fn gf) (eg : ∀ args w, (callFunc gf args).run P w = .ok (.enter gf args) w)
  {encs : α → Array Value} {Kp : World → World → Prop} {S Sp : List α → Prop} {N : Nat} {w0 : World} (hseq : SeqC k F (n - 1) P gf lb encs Kp S Sp N w0)
  (hKt : ∀ {A B C : World}, Kp A B → Kp B C → Kp A C) (hKb : ∀ (W : World) (l : Nat) (o o' : Obj), w.heap.size ≤ l → W.heap[l]? = some o → o.isCells = false → o.isWalk = false → Kp W (W.putObj l o')) (hb0 : Below w0.heap.size w0 w) (hps : ∀ x, (encs x).size = ps.size)
  (I : List α → World → Prop) (Ix : Code → List α → World → Prop) (hI : OwC k w.heap.size I) (hIx : ∀ c, OwC k w.heap.size (Ix c)) (h0 : I [] w) (Ax : α → Act → World → Prop) (hAx : ∀ x a', OwC k w.heap.size (fun (_ : Unit) W => Ax x a' W))
  (hassign : ∀ (l : Nat) (pre : List α) (x : α) (W : World) (K : Act → World → Prop), I pre W → (∀ a' W', KeepsFrom w.heap.size W W' → Kp W W' → I pre W' → Ax x a' W' → K a' W') →
   assign.wpIn (F.inRound l) (n - 1 - 1) P (Exit.then K (fun _ _ _ => False)) { tmps := (ps.zip (encs x)).foldl (fun t (p, v) => t.setIfInBounds p v) a.tmps, defers := [] } W)
  (hbody : ∀ (l : Nat) (pre : List α) (x : α) (a' : Act) (W : World), w.heap.size ≤ l → (∃ r, W.heap[l]? = some (.loop r)) → I pre W → Ax x a' W → pre.length < N → body.wpIn (F.inRound l) (n - 1 - 1) P (ownPostG w.heap.size Kp I Ix (pre ++ [x]) W) a' W)
  (hdone : ∀ (D : Nat) (xs : List α) (W : World), w.heap.size ≤ D → S xs → I xs W → W.heap[D]? = some (.deferred (some [])) → Q .normal { a with defers := { target := .collected D, args := #[] } :: a.defers } W)
  (hstop : ∀ (D : Nat) (c : Code) (pre : List α) (W : World), w.heap.size ≤ D → Sp pre → Ix c pre W → W.heap[D]? = some (.deferred (some [])) → c.wpIn F n P Q { a with defers := { target := .collected D, args := #[] } :: a.defers } W) :
  (Code.rangeFunc g ps assign body).wpIn F n P Q a w := by
 refine wpIn_rangeFunc fun fn hfn => ?_
 obtain ⟨R, hR⟩ : ∃ R : LoopState → Option Code → Loop, R = fun st pe => { state := st, pending := pe, fn := fn, tmps := a.tmps, params := ps, assign := assign, body := body, defers := w.heap.size } := ⟨_, rfl⟩
 obtain ⟨V, hV, eS, eL, eD, gV⟩ : ∃ V : World, V = (w.alloc (.deferred (some []))).alloc (.loop (R .ready none)) ∧ V.heap.size = w.heap.size + 2 ∧ V.heap[w.heap.size + 1]? = some (.loop (R .ready none)) ∧ V.heap[w.heap.size]? = some (.deferred (some [])) ∧ Below w.heap.size w V := by
  refine ⟨_, rfl, by simp, ?_, (Below.heap_alloc _ _ _ (by simp)).trans (World.alloc_heap_new w _), ((Below.refl _ w).alloc (Nat.le_refl _) _).alloc (by simp) _⟩
  have := World.alloc_heap_new (w.alloc (.deferred (some []))) (.loop (R .ready none))
  rwa [World.size_alloc] at this
 have iV : I [] V := by rw [hV]; exact hI.alloc (hI.alloc h0 _) _
 refine ⟨w.heap.size + 1, [{ target := .collected w.heap.size, args := #[] }], V, { target := .fn (.func gf) lb, args := #[.func (.yield (w.heap.size + 1)) #[] #[]] }, V, gf, #[.func (.yield (w.heap.size + 1)) #[] #[]] ++ lb, V, ?_, ?_, ?_, ?_, fun _ => h1, ?_⟩
 ·rw [hro, hV, hR]
  exact run_enterLoop_outer _ _ _ _ _
 ·simp only [resolve, hg]
  simp [go_sem]
 ·intro f' hf'
  simp [Target.leads] at hf'
  subst hf'
  exact hFg
 ·simp [invoke, go_sem, eg]
 have up : ∀ {A : World} {row : Option Nat}, (∀ r, row = some r → V.heap.size ≤ r ∧ ∃ o : Obj, A.heap[r]? = some o ∧ (o.isWalk = true ∨ ofK k o = true)) → ∀ r, row = some r → w.heap.size ≤ r ∧ ∃ o : Obj, A.heap[r]? = some o ∧ (o.isCells = false ∨ ofK k o = true) := fun hr r e => by
  obtain ⟨q1, o, q2, q3⟩ := hr r e
  exact ⟨by omega, o, q2, not_cells_or q3⟩
 refine (hseq (w.heap.size + 1) (fun pre W => I pre W ∧ W.heap[w.heap.size + 1]? = some (.loop (R .ready none)) ∧ W.heap[w.heap.size]? = some (.deferred (some [])))
  (fun pre W => ∃ c, Ix c pre W ∧ W.heap[w.heap.size + 1]? = some (.loop (R .done (some c))) ∧ W.heap[w.heap.size]? = some (.deferred (some []))) V (hb0.trans (gV.mono hb0.size)) ?_ ?_ ?_ ⟨iV, eL, eD⟩).mono ?_
 ·exact fun s A B row hs hg' hr => ⟨hI s A B row hs.1 hg' (up hr), kept_plain hg' hr hs.2.1 rfl rfl, kept_plain hg' hr hs.2.2 rfl rfl⟩
 ·rintro s A B row ⟨c, q1, q2, q3⟩ hg' hr
  exact ⟨c, hIx c s A B row q1 hg' (up hr), kept_plain hg' hr q2 rfl rfl, kept_plain hg' hr q3 rfl rfl⟩
 ·rintro pre x W ⟨q1, q2, q3⟩ hN
  exact yield_round (Kp := Kp) hfn hKt hKb hps hI hIx hAx hassign hbody R hR pre x W q1 q2 q3 hN
 ·rintro e W ⟨⟨v, rfl⟩, ⟨xs, hS, q1, q2, q3⟩ | ⟨pre, hS, c, q1, q2, q3⟩⟩
  ·refine ⟨none, _, ?_, hdone w.heap.size xs _ (Nat.le_refl _) hS (hI.put q1 q2 (Nat.le_succ _) rfl (.loop { R .ready none with state := .exhausted })) ((World.putObj_heap_other (by omega)).trans q3)⟩
   have := run_endLoop (P := P) q2 (by rw [hR]; simp)
   rw [this, hR]
  ·refine ⟨some c, _, ?_, hstop w.heap.size c pre _ (Nat.le_refl _) hS ((hIx c).put q1 q2 (Nat.le_succ _) rfl (.loop { R .done (some c) with state := .exhausted })) ((World.putObj_heap_other (by omega)).trans q3)⟩
   have := run_endLoop (P := P) q2 (by rw [hR]; simp)
   rw [this, hR]
/- A term's four cells (TV), and the contract of term.wellMade: it answers wmB of them. -/
structure TV where
 k : Int
 N : Int
 s : ByteArray
 a : Option Addr
 len : Nat
 cap : Nat
def TV.cells (x : TV) : Array Value := #[.int .i64 x.k, .int .i64 x.N, .string x.s, .slice x.a x.len x.cap]
def TV.val (x : TV) : Value := .agg #[.int .i64 x.k, .int .i64 x.N, .string x.s, .slice x.a x.len x.cap]
def wmB (k N : Int) (s : ByteArray) (len : Nat) : Bool :=
 if k = 1 then decide (0 ≤ N) && decide (N ≤ 1099511627776) && decide (s.toList = []) && ((len : Int) == 0)
 else if k = 2 then decide (s.toList = []) && ((len : Int) == 0)
 else if k = 3 then decide (N = 0) && decide ((s.size : Int) ≤ 100) && ((len : Int) == 0)
 else if k = 4 then decide (N = 0) && decide ((s.size : Int) ≤ 100) && decide (1 ≤ (len : Int)) && decide ((len : Int) ≤ 50)
 else false
set_option maxHeartbeats 1000000 in
theorem wm_any (k N : Int) (s : ByteArray) (a : Option Addr) (len cap : Nat) (w : World) :
  Calls Tryz.prog 50 #[.agg #[.int .i64 k, .int .i64 N, .string s, .slice a len cap]] w fun e w' => e = .returned (.bool (wmB k N s len)) ∧ w' = w.alloc (.cells #[.int .i64 k, .int .i64 N, .string s, .slice a len cap] 24) := by
 go_enter Tryz.func50, Tryz.ntmps50
 go_wp2
 all_goals go_ret
 all_goals refine ⟨?_, ?_⟩
 all_goals first | rfl | (rw [‹N = 0›]) | skip
 all_goals simp_all [wmB]
 all_goals (intros; omega)
/- Terms in memory (Tm, IsT), what a round keeps (Kp), and the contract of term.walk: it yields every part of a term, in its order, or stops where a round says so. -/
open Go.Shelf
attribute [local go_sem] Oper.semAt_some
theorem hide {p : Prop} (h : p) : Hid p := h
theorem unhide {p : Prop} (h : Hid p) : p := h
def Tm : Nat → Type
 | 0 => Empty
 | n + 1 => TV × List (Tm n)
def Tm.tv : {n : Nat} → Tm n → TV
 | 0, t => Empty.elim t
 | _ + 1, t => Prod.fst t
def Tm.kids {n : Nat} (t : Tm (n + 1)) : List (Tm n) := Prod.snd t
def parts : {n : Nat} → Tm n → List TV
 | 0, t => Empty.elim t
 | _ + 1, t => t.tv :: t.kids.flatMap parts
def cellsAt (W : World) (b o : Nat) (x : TV) : Prop :=
 W.cell? ⟨b, o, none⟩ = some (.int .i64 x.k) ∧ W.cell? ⟨b, o + 1, none⟩ = some (.int .i64 x.N) ∧ W.cell? ⟨b, o + 2, none⟩ = some (.string x.s) ∧ W.cell? ⟨b, o + 3, none⟩ = some (.slice x.a x.len x.cap)
def IsT (n₀ : Nat) (W : World) : {n : Nat} → Tm n → Prop
 | 0, t => Empty.elim t
 | n + 1, t => t.tv.len = t.kids.length ∧ (t.tv.len ≤ 9223372036854775807 ∧ t.tv.len ≤ t.tv.cap ∧ n + 1 ≤ 2199023255552) ∧ t.tv.s.size ≤ 9223372036854775807 ∧ (t.kids = [] ∨ ∃ b off, t.tv.a = some ⟨b, off, none⟩ ∧ b < n₀ ∧
   ∀ j u, t.kids[j]? = some u → cellsAt W b (off + j * 4) u.tv ∧ IsT n₀ W u)
def tmCells : Obj → Bool
 | .cells _ e _ => e == 24 || e == 22
 | _ => false
structure Kp (n₀ n₁ : Nat) (A B : World) : Prop where
 size : A.heap.size ≤ B.heap.size
 same : ∀ (i : Nat) (o : Obj), (i < n₀ ∨ (n₁ ≤ i ∧ tmCells o = true)) → A.heap[i]? = some o → o.isCells = true → B.heap[i]? = some o
theorem Kp.refl (n₀ n₁ : Nat) (A : World) : Kp n₀ n₁ A A := ⟨Nat.le_refl _, fun _ _ _ h _ => h⟩
theorem Kp.trans {n₀ n₁ : Nat} {A B C : World} (h : Kp n₀ n₁ A B) (k : Kp n₀ n₁ B C) : Kp n₀ n₁ A C := ⟨Nat.le_trans h.size k.size, fun i o hi ha hc => k.same i o hi (h.same i o hi ha hc) hc⟩
theorem Kp.alloc {n₀ n₁ : Nat} {A B : World} (h : Kp n₀ n₁ A B) (o : Obj) : Kp n₀ n₁ A (B.alloc o) :=
 h.trans ⟨by simp, fun i _ _ hb _ => (Below.heap_alloc B o i (Array.getElem?_eq_some_iff.1 hb).1).trans hb⟩
theorem Kp.putObj {n₀ n₁ : Nat} {w : World} (W : World) (l : Nat) (o o' : Obj) (_ : w.heap.size ≤ l) (h : W.heap[l]? = some o) (hc : o.isCells = false) (_ : o.isWalk = false) : Kp n₀ n₁ W (W.putObj l o') :=
 ⟨(grownBy_putObj' W l o').size, fun i o2 _ hi hcc => by
  by_cases e : i = l
  ·subst e; rw [h] at hi; cases hi; rw [hc] at hcc; cases hcc
  ·rw [World.putObj_heap_other (fun e' => e e')]; exact hi⟩
theorem Kp.of_below {n₀ n₁ : Nat} {A B : World} (h : Below A.heap.size A B) : Kp n₀ n₁ A B :=
 ⟨h.size, fun i _ _ ha _ => (h.block i (Array.getElem?_eq_some_iff.1 ha).1).trans ha⟩
theorem Kp.own {n₀ n₁ : Nat} {A B : World} (h : Kp n₀ n₁ A B) {b : Nat} {c : Array Value} {m : Nat × Nat} (hn : n₁ ≤ b) (ha : A.heap[b]? = some (.cells c 24 m)) : B.heap[b]? = some (.cells c 24 m) :=
 h.same b _ (.inr ⟨hn, by simp [tmCells]⟩) ha rfl
theorem Kp.cell {n₀ n₁ : Nat} {A B : World} (h : Kp n₀ n₁ A B) {b o : Nat} {v : Value} (hb : b < n₀) (hc : A.cell? ⟨b, o, none⟩ = some v) : B.cell? ⟨b, o, none⟩ = some v := by
 unfold World.cell? at hc ⊢
 simp only at hc ⊢
 cases ha : A.heap[b]? with
 | none => rw [ha] at hc; cases hc
 | some ob =>
  rw [ha] at hc
  cases ob with
  | cells c t m => rw [h.same b _ (.inl hb) ha rfl]; exact hc
  | _ => cases hc
theorem cellsAt.kp {n₀ n₁ : Nat} {A B : World} (h : Kp n₀ n₁ A B) {b o : Nat} {x : TV} (hb : b < n₀) (hc : cellsAt A b o x) : cellsAt B b o x :=
 ⟨h.cell hb hc.1, h.cell hb hc.2.1, h.cell hb hc.2.2.1, h.cell hb hc.2.2.2⟩
theorem IsT.kp {n₀ n₁ : Nat} {A B : World} (h : Kp n₀ n₁ A B) : ∀ {n : Nat} {t : Tm n}, IsT n₀ A t → IsT n₀ B t := by
 intro n
 induction n with
 | zero => intro t; exact Empty.elim t
 | succ n ih =>
  intro t ht
  obtain ⟨h1, h2, h3, h4⟩ := ht
  rcases h4 with h4 | ⟨b, off, ha, hb, hk⟩
  ·exact ⟨h1, h2, h3, .inl h4⟩
  ·exact ⟨h1, h2, h3, .inr ⟨b, off, ha, hb, fun j u hu => ⟨(hk j u hu).1.kp h hb, ih (hk j u hu).2⟩⟩⟩
theorem IsT.below {n₀ : Nat} {A B : World} (h : Below n₀ A B) {n : Nat} {t : Tm n} (ht : IsT n₀ A t) : IsT n₀ B t :=
 ht.kp (n₁ := max n₀ A.heap.size) ⟨h.size, fun i _ hi ha _ => by
  have hlt := (Array.getElem?_eq_some_iff.1 ha).1
  have hi' : i < n₀ := by
   rcases hi with hi | ⟨hi, -⟩
   ·exact hi
   ·omega
  exact (h.block i hi').trans ha⟩
theorem IsT.mono {n₀ n₁ : Nat} (hle : n₀ ≤ n₁) {A : World} : ∀ {n : Nat} {t : Tm n}, IsT n₀ A t → IsT n₁ A t := by
 intro n
 induction n with
 | zero => intro t; exact Empty.elim t
 | succ n ih =>
  intro t ht
  obtain ⟨h1, h2, h3, h4⟩ := ht
  rcases h4 with h4 | ⟨b, off, ha, hb, hk⟩
  ·exact ⟨h1, h2, h3, .inl h4⟩
  ·exact ⟨h1, h2, h3, .inr ⟨b, off, ha, by omega, fun j u hu => ⟨(hk j u hu).1, ih (hk j u hu).2⟩⟩⟩
theorem room_of_none {F : Fence} (hd : F.depth = none) (k : Nat) : F.room k := fun d h => by rw [hd] at h; cases h
theorem RoundIn.anyDepth {F : Fence} (hd : F.depth = none) {m m' : Nat} {P : Program} {l : Nat} {f : FuncId} {tmps : Array Value} {assign body : Code} {w : World} {R : Ending → World → Prop}
  (h : RoundIn F m P l f tmps assign body w R) : RoundIn F m' P l f tmps assign body w R := ⟨h.1, fun c cs _ => h.2 c cs (room_of_none hd _)⟩
theorem YieldAt.anyDepth {F : Fence} (hd : F.depth = none) {m : Nat} (m' : Nat) {P : Program} {l : Nat} {args : Array Value} {W : World} {R : Ending → World → Prop} (h : YieldAt F m P l args W R) : YieldAt F m' P l args W R := by
 obtain ⟨fn, tmps, assign, body, hy, hR⟩ := h
 exact ⟨fn, tmps, assign, body, hy, RoundIn.anyDepth hd hR⟩
theorem Kp.ownR {n₀ n₁ : Nat} {A B : World} (h : Kp n₀ n₁ A B) {b : Nat} {c : Array Value} {m : Nat × Nat} (hn : n₁ ≤ b) (ha : A.heap[b]? = some (.cells c 22 m)) : B.heap[b]? = some (.cells c 22 m) :=
 h.same b _ (.inr ⟨hn, by simp [tmCells]⟩) ha rfl
theorem least_ex {p : Nat → Prop} (h : ∃ k, p k) : ∃ k, p k ∧ ∀ j, p j → k ≤ j := by
 obtain ⟨k, hk⟩ := h
 induction k using Nat.strongRecOn with
 | ind k ih =>
  by_cases hs : ∃ j, j < k ∧ p j
  ·obtain ⟨j, hj, hp⟩ := hs
   exact ih j hj hp
  ·exact ⟨k, hk, fun j hj => Nat.le_of_not_lt fun hlt => hs ⟨j, hlt, hj⟩⟩
open Classical in
noncomputable def leastK (p : Nat → Prop) : Nat := if h : ∃ k, p k then Classical.choose (least_ex h) else 0
theorem leastK_spec {p : Nat → Prop} (h : ∃ k, p k) : p (leastK p) := by
 unfold leastK
 rw [dif_pos h]
 exact (Classical.choose_spec (least_ex h)).1
theorem leastK_le {p : Nat → Prop} {k : Nat} (h : p k) : leastK p ≤ k := by
 unfold leastK
 rw [dif_pos ⟨k, h⟩]
 exact (Classical.choose_spec (least_ex ⟨k, h⟩)).2 k h
structure Lf where
 n : Nat
 a : Option Addr
 cap : Nat
 ts : List (Tm n)
def Lf.val (e : Lf) : Value := .slice e.a e.ts.length e.cap
def Lf.Is (n₀ : Nat) (W : World) (e : Lf) : Prop := e.ts.length ≤ e.cap ∧ (e.ts = [] ∨ ∃ b off, e.a = some ⟨b, off, none⟩ ∧ b < n₀ ∧ ∀ j u, e.ts[j]? = some u → cellsAt W b (off + j * 4) u.tv ∧ IsT n₀ W u)
def Lf.all (e : Lf) : List TV := e.ts.flatMap parts
def restL (S : List Lf) : List TV := S.reverse.flatMap Lf.all
theorem restL_snoc (S : List Lf) (e : Lf) : restL (S ++ [e]) = e.all ++ restL S := by simp [restL]
theorem restL_nil : restL [] = [] := rfl
theorem Lf.Is.kp {n₀ n₁ : Nat} {A B : World} (h : Kp n₀ n₁ A B) {e : Lf} (he : e.Is n₀ A) : e.Is n₀ B := by
 obtain ⟨h1, h2⟩ := he
 refine ⟨h1, ?_⟩
 rcases h2 with h2 | ⟨b, off, ha, hb, hk⟩
 ·exact .inl h2
 ·exact .inr ⟨b, off, ha, hb, fun j u hu => ⟨(hk j u hu).1.kp h hb, (hk j u hu).2.kp h⟩⟩
def kidsL {n : Nat} (t : Tm (n + 1)) : Lf := ⟨n, t.tv.a, t.tv.cap, t.kids⟩
theorem kidsL_is {n₀ : Nat} {W : World} {n : Nat} {t : Tm (n + 1)} (h : IsT n₀ W t) : (kidsL t).Is n₀ W := by
 obtain ⟨h1, ⟨h2, h2', _⟩, h3, h4⟩ := h
 exact ⟨by show t.kids.length ≤ t.tv.cap; omega, h4⟩
theorem kidsL_val {n₀ : Nat} {W : World} {n : Nat} {t : Tm (n + 1)} (h : IsT n₀ W t) : (kidsL t).val = .slice t.tv.a t.tv.len t.tv.cap := by
 show Value.slice t.tv.a t.kids.length t.tv.cap = _
 rw [h.1]
theorem kidsL_all {n : Nat} (t : Tm (n + 1)) : parts t = t.tv :: (kidsL t).all := rfl
def Stk (n₁ g cap : Nat) (W : World) (S : List Lf) : Prop := W.ownsRow n₁ 22 1 (.slice (some ⟨g, 0, none⟩) S.length cap) S.length (S.map Lf.val)
theorem Stk.blk {n₁ g cap : Nat} {W : World} {S : List Lf} (h : Stk n₁ g cap W S) : n₁ ≤ g ∧ S.length ≤ cap ∧ ∃ cur, W.heap[g]? = some (.cells cur 22 (0, 0)) ∧ cap ≤ maxLen ∧ cur.size = cap ∧ cur.toList.take S.length = S.map Lf.val := by
 obtain ⟨h1, h2⟩ := h
 rcases h2 with ⟨h2, _⟩ | ⟨g', cap', cur, h2, h3, h4, h5, h6, h7, h8⟩
 ·cases h2
 ·simp only [Value.slice.injEq, Option.some.injEq, Addr.mk.injEq, and_true, true_and] at h2
  obtain ⟨rfl, rfl⟩ := h2
  exact ⟨h3, h5, cur, h4, h6, by omega, by simpa using h8⟩
theorem stk_mk {n₁ g cap : Nat} {W : World} {S : List Lf} {cur : Array Value} (h3 : n₁ ≤ g) (h5 : S.length ≤ cap) (h4 : W.heap[g]? = some (.cells cur 22 (0, 0))) (h6 : cap ≤ maxLen) (h7 : cur.size = cap) (h8 : cur.toList.take S.length = S.map Lf.val) : Stk n₁ g cap W S :=
 ⟨by simp, .inr ⟨g, cap, cur, rfl, h3, h4, h5, h6, by omega, by simpa using h8⟩⟩
theorem Stk.kept {n₁ g cap : Nat} {W W' : World} {S : List Lf} (h : Stk n₁ g cap W S) (hk : W'.heap[g]? = W.heap[g]?) : Stk n₁ g cap W' S := by
 obtain ⟨h1, h2, cur, h3, h4, h5, h6⟩ := h.blk
 exact stk_mk h1 h2 (hk.trans h3) h4 h5 h6
theorem Stk.pop {n₁ g cap : Nat} {W : World} {S : List Lf} {e : Lf} (h : Stk n₁ g cap W (S ++ [e])) : Stk n₁ g cap W S := by
 obtain ⟨h1, h2, cur, h3, h4, h5, h6⟩ := h.blk
 simp only [List.length_append, List.length_cons, List.length_nil] at h2 h6
 refine stk_mk h1 (by omega) h3 h4 h5 ?_
 have := congrArg (List.take S.length) h6
 rw [List.take_take] at this
 simpa [Nat.min_eq_left (Nat.le_succ _)] using this
theorem Stk.top {n₁ g cap : Nat} {W : World} {S : List Lf} {e : Lf} (h : Stk n₁ g cap W (S ++ [e])) : W.cell? ⟨g, S.length, none⟩ = some e.val ∧ W.frozen? ⟨g, S.length, none⟩ = false := by
 have h1 := World.ownsRow.cellAt h S.length (by simp)
 have h2 := World.ownsRow.frozenAt h S.length
 refine ⟨h1.trans ?_, h2⟩
 simp
theorem Stk.set {n₁ g cap : Nat} {W : World} {S : List Lf} {e : Lf} (h : Stk n₁ g cap W (S ++ [e])) (e' : Lf) : Stk n₁ g cap (W.setCell ⟨g, S.length, none⟩ e'.val) (S ++ [e']) := by
 have h1 := (World.ownsRow.stored h S.length e'.val).1
 unfold Stk
 simpa [List.set_append] using h1
end Go.Proofs.YtlbobmebbllifaaGreat
