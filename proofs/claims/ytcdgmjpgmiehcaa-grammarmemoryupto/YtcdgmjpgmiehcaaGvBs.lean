import Derived.Test.YtcdgmjpgmiehcaaMrbs
import Derived.Test.YtcdgmjpgmiehcaaGvA
import Derived.Test.YtcdgmjpgmiehcaaGqZs
/- The contract of hornkeep.twice once more: what a function gives in whole rows is the caller's. -/
namespace Go.Proofs.Ytcdgmjpgmiehcaa
open Go.RowKit Go.Shelf Go.Maps

/-- A function value that gives a term of the code c in new memory, in every world behind w. -/
def GivesP (g : Nat) (lb : Array Value) (D : Nat) (c : List Nd) (w : World) : Prop :=
  ∀ W, Below w.heap.size w W → Calls Try.prog g lb W fun e W' => ∃ t : Tm D, e = .returned t.tv.val ∧ Below W.heap.size W W' ∧ IsT W'.heap.size W' t ∧ SpT W.heap.size W'.heap.size W' t ∧ code t = c
theorem Spoils.belowP {lo hi n : Nat} {A B : World} (h : Spoils (fun b => lo ≤ b ∧ b < hi) A B) (hn : n ≤ lo) (hA : n ≤ A.heap.size) : Below n A B :=
  ⟨h.os, h.tape, h.output, h.size, fun k hk => h.other k (by omega) (fun hs => by have := hs.1; omega)⟩
set_option maxRecDepth 100000 in
set_option maxHeartbeats 2000000 in
theorem twice_sp (g : Nat) (lb : Array Value) (eg : ∀ args w, (callFunc g args).run Try.prog w = .ok (.enter g args) w) (D : Nat) (c : List Nd) (w : World) (h50 : ∀ x ∈ c, x.2.2.2 ≤ 50) (hg : GivesP g lb D c w) :
    Calls Try.prog 6 #[.func (.func g) #[] lb] w fun e W' => e = .returned (.bool true) ∧ Below w.heap.size w W' := by
  have h1 := hg w (Below.refl _ _)
  have HG := hide hg
  clear hg
  go_enter Try.func6, Try.ntmps6
  go_wp2_with fail
  refine h1.mono ?_
  clear h1
  rintro e W1 ⟨t1, rfl, b1, T1, wh1, c1⟩
  have hs := spoilTerm_sp w.heap.size W1.heap.size D t1 W1 b1.size (Nat.le_refl _) wh1 T1
  clear T1 wh1 c1
  go_wp2_with fail
  refine hs.mono ?_
  clear hs
  rintro e W2 ⟨rfl, sp⟩
  have B2 : Below w.heap.size w W2 := b1.trans (sp.belowP (Nat.le_refl _) b1.size)
  have h1 := HG.out W2 B2
  clear sp
  go_wp2_with fail
  refine h1.mono ?_
  clear h1
  rintro e W3 ⟨t3, rfl, b3, T3, wh3, c3⟩
  dsimp only [TV.val]
  go_wp2_with fail
  have bA : Below W3.heap.size W3 (W3.alloc (.cells #[.int .i64 t3.tv.k, .int .i64 t3.tv.N, .string t3.tv.s, .slice t3.tv.a t3.tv.len t3.tv.cap] 24)) := (Below.refl _ W3).alloc (Nat.le_refl _) _
  have hA : (W3.alloc (.cells #[.int .i64 t3.tv.k, .int .i64 t3.tv.N, .string t3.tv.s, .slice t3.tv.a t3.tv.len t3.tv.cap] 24)).heap.size = W3.heap.size + 1 := by simp
  have boxA := BoxT.new W3 t3.tv
  have ho := own_any D t3 _ ((T3.below bA).mono bA.size) (fun x hx => Nat.le_trans (h50 x (by rw [← c3]; exact hx)) (by omega))
  simp only [TV.val] at ho
  refine ho.mono ?_
  clear ho
  rintro e W4 ⟨t4, rfl, b4, o4, c4⟩
  rw [hA] at b4 o4
  have b34 : Below W3.heap.size W3 W4 := bA.trans (b4.mono (by omega))
  have bx4 : BoxT (W4.alloc (.cells #[.int .i64 t4.tv.k, .int .i64 t4.tv.N, .string t4.tv.s, .slice t4.tv.a t4.tv.len t4.tv.cap] 24)) W3.heap.size t3.tv := (Below.heap_alloc _ _ _ (by have := b4.size; omega)).trans ((b4.block W3.heap.size (by omega)).trans boxA)
  have by4 := BoxT.new W4 t4.tv
  have bB : Below W4.heap.size W4 (W4.alloc (.cells #[.int .i64 t4.tv.k, .int .i64 t4.tv.N, .string t4.tv.s, .slice t4.tv.a t4.tv.len t4.tv.cap] 24)) := (Below.refl _ W4).alloc (Nat.le_refl _) _
  have b35 : Below W3.heap.size W3 (W4.alloc (.cells #[.int .i64 t4.tv.k, .int .i64 t4.tv.N, .string t4.tv.s, .slice t4.tv.a t4.tv.len t4.tv.cap] 24)) := b34.trans (bB.mono b34.size)
  have hs := spoilTerm_sp W2.heap.size W3.heap.size D t3 _ b3.size b35.size (wh3.kept fun b _ hl => b35.block b hl) ((T3.below b35).mono b35.size)
  have o5 := o4.below bB
  have x0 := bx4.c0
  have x1 := bx4.c1
  have x2 := bx4.c2
  have x3 := bx4.c3
  clear T3 wh3 o4 bx4 boxA
  simp only [TV.val] at hs
  dsimp only [TV.val]
  go_wp2_with fail
  refine hs.mono ?_
  clear hs
  rintro e W5 ⟨rfl, sp⟩
  clear x0 x1 x2 x3
  have hB4 : (W4.alloc (.cells #[.int .i64 t4.tv.k, .int .i64 t4.tv.N, .string t4.tv.s, .slice t4.tv.a t4.tv.len t4.tv.cap] 24)).heap.size = W4.heap.size + 1 := by simp
  have o6 : Owned (W3.heap.size + 1) W5 t4 := o5.fromS (S := (W3.heap.size + 1 ≤ ·)) o5.blk (fun b h1 h2 _ => sp.other b h2 (fun hs => by have := hs.2; omega)) sp.size
  have B5 : Below w.heap.size w W5 := ((B2.trans (b3.mono B2.size)).trans (b35.mono (Nat.le_trans B2.size b3.size))).trans (sp.belowP B2.size (Nat.le_trans (Nat.le_trans B2.size b3.size) b35.size))
  have by5 : BoxT W5 W4.heap.size t4.tv := (sp.other W4.heap.size (by omega) (fun hs => by have := hs.2; have := b34.size; omega)).trans by4
  have hy5 : W4.heap.size < W5.heap.size := by have := sp.size; omega
  have h1 := HG.out W5.drew B5.drew
  have y0 := by5.c0
  have y1 := by5.c1
  have y2 := by5.c2
  have y3 := by5.c3
  clear sp o5 by4 by5
  have hcc : code t4 = c := c4.trans c3
  have HF : Hid (∀ (t6 : Tm D) W6, Below W5.drew.heap.size W5.drew W6 → IsT W6.heap.size W6 t6 → code t6 = c → Below W5.heap.size W5 W6 ∧ Calls Try.prog 18 #[t6.tv.val, t4.tv.val] W6 fun e W' => e = .returned (.bool true) ∧ Below W5.heap.size W5 W' ∧ Below w.heap.size w W') := fun t6 W6 b6 T6 c6 => by
    have b56 : Below W5.heap.size W5 W6 := (Below.refl _ W5).drew.trans b6
    refine ⟨b56, (same_any D t6 t4 W6 T6 ((o6.below b56).is)).mono fun e W' h => ?_⟩
    rw [sameT_code T6.wl o6.is.wl, c6, hcc] at h
    exact ⟨by simpa using h.1, b56.trans (h.2.mono b56.size), (B5.trans (b56.mono B5.size)).trans (h.2.mono (Nat.le_trans B5.size b56.size))⟩
  simp only [TV.val] at HF
  clear hcc c4 c3 o6 B5 hB4 b35 bB b34 b4 hA bA b3 B2 b1 HG h50
  go_wp2_with fail
  go_region_held3 (fun w' => w'.cell? ⟨W4.heap.size, 0, none⟩ = some (.int .i64 t4.tv.k) ∧ w'.cell? ⟨W4.heap.size, 1, none⟩ = some (.int .i64 t4.tv.N) ∧ w'.cell? ⟨W4.heap.size, 2, none⟩ = some (.string t4.tv.s) ∧ w'.cell? ⟨W4.heap.size, 3, none⟩ = some (.slice t4.tv.a t4.tv.len t4.tv.cap)) (go_keep)
    (first | (go_at_call 18; refine hsa.mono ?_; clear hsa; rintro e W7 ⟨rfl, b57, hb7⟩; have hbd := bcell b57) | (with_reducible refine h1.mono ?_; clear h1; rintro e W6 ⟨t6, rfl, b6, T6, wh6, c6⟩; obtain ⟨b56, hsa⟩ := HF.out t6 W6 b6 T6 c6; clear b6 T6 wh6 c6 HF; dsimp only [TV.val]; have hbc := bcell b56))
  go_wp2_with fail
  go_ret
  exact ⟨rfl, hb7⟩
end Go.Proofs.Ytcdgmjpgmiehcaa

/- The parts of what Translate and Phrase answer have at most fifty Args: mathematics. -/
namespace Go.Proofs.Ytcdgmjpgmiehcaa
open Go.RowKit Go.Shelf

def WideC (c : List Nd) : Prop := ∀ y ∈ c, y.2.2.2 ≤ 50
theorem wide_okN {c : List Nd} (h : c.all okN = true) : WideC c := fun y hy => by
  have := List.all_eq_true.1 h y hy
  simp [okN] at this
  exact this.2
theorem wide_ren (f : Int → Int) {c : List Nd} (h : WideC c) : WideC (renC f c) := fun y hy => by
  unfold renC at hy
  obtain ⟨x, hx, hy⟩ := List.mem_flatMap.1 hy
  unfold subN at hy
  split at hy
  · simp [varNd] at hy
    subst hy
    show (0 : Nat) ≤ 50
    omega
  · simp at hy
    subst hy
    exact h y hx
theorem canon_is (f : Int) (c : List Nd) : ∃ g, canon f c = renC g c := ⟨fun N => f + ((stepsN stpN [] c).idxOf N : Nat), rfl⟩
theorem wide_canon (f : Int) {c : List Nd} (h : WideC c) : WideC (canon f c) := by
  obtain ⟨g, e⟩ := canon_is f c
  rw [e]
  exact wide_ren g h
theorem wide_no : WideC noC := fun y hy => by simp [noC] at hy; subst hy; show (0 : Nat) ≤ 50; omega
theorem wide_app {c d : List Nd} (h : WideC c) (k : WideC d) : WideC (c ++ d) := fun y hy => by
  rcases List.mem_append.1 hy with hy | hy
  · exact h y hy
  · exact k y hy
theorem wide_cons {x : Nd} {c : List Nd} (h : x.2.2.2 ≤ 50) (k : WideC c) : WideC (x :: c) := fun y hy => by
  rcases List.mem_cons.1 hy with rfl | hy
  · exact h
  · exact k y hy
theorem wide_okT {n : Nat} {t : Tm n} (ok : okT t = true) : WideC (code t) := wide_okN (okN_of (by rw [← okT_m]; exact ok))
theorem head_len {x : TV} (h : headE x = 0) : x.len + 2 ≤ 50 := by
  unfold headE extE at h
  split at h
  · split at h
    · omega
    · split at h
      · omega
      · omega
  · omega
theorem wide_phr {n : Nat} (tb tl tr : Tm n) (hw : Wl tb) : WideC (phrC tb tl tr) := by
  unfold phrC
  by_cases h : phrE tb tl tr = 0
  · rw [if_pos h]
    unfold phrE at h
    split at h
    · rename_i hok
      have hb : berr tb = 0 := by
        by_cases hb : berr tb = 0
        · exact hb
        · rw [if_neg hb] at h; exact absurd h hb
      exact wide_ren _ (wide_okN (btw_okN tb hw hok.1 hb _ (okN_of (by rw [← okT_m]; exact hok.2.1)) (okN_of (by rw [← okT_m]; exact hok.2.2))))
    · omega
  · rw [if_neg h]; exact wide_no
theorem wide_tr {n : Nat} (t : Tm (n + 2)) (hw : Wl t) (n0 : Int) : WideC (trC t n0) := by
  unfold trC
  by_cases h : trE t = 0
  · rw [if_pos h]
    obtain ⟨x, kids⟩ := t
    match kids, hw, h with
    | [], _, _ => exact wide_no
    | [_], _, _ => exact wide_no
    | [a, b], hw, h =>
      show WideC (canon 0 _)
      unfold trE at h
      split at h
      · rename_i ok
        split at h
        · have hk := (ok_kids ok).2
          have h' : (if headE a.tv = 0 then berr b else headE a.tv) = 0 := h
          have hh : headE a.tv = 0 := by
            by_cases hh : headE a.tv = 0
            · exact hh
            · rw [if_neg hh] at h'; exact absurd h' hh
          rw [if_pos hh] at h'
          have hl := head_len hh
          have wa := wide_okT (hk a (by simp))
          have hwb : Wl b := hw.2 b (by simp [Tm.kids])
          refine wide_canon _ (wide_cons (by show (2 : Nat) ≤ 50; omega) (wide_app (wide_cons hl (wide_app (fun y hy => wa y ?_) (wide_okN (by rw [List.all_append, varN, varN]; rfl)))) (wide_okN (btw_okN b hwb (hk b (by simp)) h' _ (varN _) (varN _)))))
          obtain ⟨z, kz⟩ := a
          rw [code_succ]
          exact List.mem_cons_of_mem _ hy
        · omega
      · omega
    | _ :: _ :: _ :: _, _, _ => exact wide_no
  · rw [if_neg h]; exact wide_no
end Go.Proofs.Ytcdgmjpgmiehcaa

/- The closures of the law as functions that give. (Written by wip/gvclos.py.) -/
namespace Go.Proofs.Ytcdgmjpgmiehcaa
open Go.RowKit Go.Shelf Go.Maps

theorem boxT_at {w W : World} {B : Nat} {x : TV} (h : BoxT w B x) (hb : Below w.heap.size w W) : BoxT W B x := (hb.block B h.lt).trans h
theorem SpT.high {lo hi hi' : Nat} (hh : hi ≤ hi') {A : World} : ∀ {n : Nat} {t : Tm n}, SpT lo hi A t → SpT lo hi' A t := by
  intro n
  induction n with
  | zero => intro t; exact Empty.elim t
  | succ n ih =>
    intro t h
    obtain ⟨⟨h1, h2⟩, h3⟩ := h
    refine ⟨⟨h1, ?_⟩, fun u hu => ih (h3 u hu)⟩
    rcases h2 with h2 | ⟨b, arr, hb, ha, hc, hk, hz⟩
    · exact .inl h2
    · exact .inr ⟨b, arr, ⟨hb.1, by omega⟩, ha, hc, hk, hz⟩
theorem SpT.blk {lo hi : Nat} {A : World} : ∀ {n : Nat} {t : Tm n}, SpT lo hi A t → BlkT (fun b => lo ≤ b ∧ b < hi) t := by
  intro n
  induction n with
  | zero => intro t; exact Empty.elim t
  | succ n ih =>
    intro t h
    obtain ⟨⟨h1, h2⟩, h3⟩ := h
    refine ⟨?_, fun u hu => ih (h3 u hu)⟩
    rcases h2 with h2 | ⟨b, arr, hb, ha, hc, hk, hz⟩
    · exact .inl h2.1
    · exact .inr ⟨b, 0, ha, hb⟩
/-- A term of the code c that may be spoilt, in new memory. -/
def GaveP (D lo : Nat) (W : World) (y : TV) (c : List Nd) : Prop := ∃ t : Tm D, y = t.tv ∧ IsT W.heap.size W t ∧ SpT lo W.heap.size W t ∧ code t = c
theorem gaveP_of {D lo : Nat} {W : World} {y : TV} {c : List Nd} (h : HoldsG anyP D lo W y.val c) (hD : D ≤ 2199023255552) (hc : WideC c) : GaveP D lo W y c := by
  obtain ⟨t, h1, h2, ⟨h3, h4⟩, h5⟩ := h D (Nat.le_refl _) hD
  exact ⟨t, tv_inj h1, h2, spT_of h2 (h3.mono fun k hk => hk.2.1) h4 (by rw [h5]; exact hc), h5⟩
/-- What is given is put into the variable c, and this into the result. -/
theorem gaveP_end {D : Nat} {W W2 : World} {y : TV} {c : List Nd} (hb : Below (W.alloc (.cells #[.int .i64 0, .int .i64 0, .string ⟨#[]⟩, .slice none 0 0] 24)).heap.size (W.alloc (.cells #[.int .i64 0, .int .i64 0, .string ⟨#[]⟩, .slice none 0 0] 24)) W2) (hg : GaveP D (W.alloc (.cells #[.int .i64 0, .int .i64 0, .string ⟨#[]⟩, .slice none 0 0] 24)).heap.size W2 y c) (hz : (W.alloc (.cells #[.int .i64 0, .int .i64 0, .string ⟨#[]⟩, .slice none 0 0] 24)).heap[W.heap.size]? = some (.cells #[.int .i64 0, .int .i64 0, .string ⟨#[]⟩, .slice none 0 0] 24 (0, 0))) :
    Below W.heap.size W (set4 (W2.alloc (.cells #[.int .i64 y.k, .int .i64 y.N, .string y.s, .slice y.a y.len y.cap] 24)) W.heap.size 0 y) ∧ (∃ t : Tm D, y = t.tv ∧ IsT (set4 (W2.alloc (.cells #[.int .i64 y.k, .int .i64 y.N, .string y.s, .slice y.a y.len y.cap] 24)) W.heap.size 0 y).heap.size (set4 (W2.alloc (.cells #[.int .i64 y.k, .int .i64 y.N, .string y.s, .slice y.a y.len y.cap] 24)) W.heap.size 0 y) t ∧ SpT W.heap.size (set4 (W2.alloc (.cells #[.int .i64 y.k, .int .i64 y.N, .string y.s, .slice y.a y.len y.cap] 24)) W.heap.size 0 y).heap.size (set4 (W2.alloc (.cells #[.int .i64 y.k, .int .i64 y.N, .string y.s, .slice y.a y.len y.cap] 24)) W.heap.size 0 y) t ∧ code t = c)
      ∧ (W2.alloc (.cells #[.int .i64 y.k, .int .i64 y.N, .string y.s, .slice y.a y.len y.cap] 24)).heap[W.heap.size]? = some (.cells #[.int .i64 0, .int .i64 0, .string ⟨#[]⟩, .slice none 0 0] 24 (0, 0)) := by
  have hs1 : (W.alloc (.cells #[.int .i64 0, .int .i64 0, .string ⟨#[]⟩, .slice none 0 0] 24)).heap.size = W.heap.size + 1 := by simp
  rw [hs1] at hb hg
  have hs2 := hb.size
  rw [hs1] at hs2
  have hB1 : Below W.heap.size W (W.alloc (.cells #[.int .i64 0, .int .i64 0, .string ⟨#[]⟩, .slice none 0 0] 24)) := (Below.refl _ W).alloc (Nat.le_refl _) _
  have hB2 : Below W2.heap.size W2 (W2.alloc (.cells #[.int .i64 y.k, .int .i64 y.N, .string y.s, .slice y.a y.len y.cap] 24)) := (Below.refl _ W2).alloc (Nat.le_refl _) _
  have hBf : Below W.heap.size W (W2.alloc (.cells #[.int .i64 y.k, .int .i64 y.N, .string y.s, .slice y.a y.len y.cap] 24)) := (hB1.trans (hb.mono (by omega))).trans (hB2.mono (by omega))
  obtain ⟨t, h1, h2, h3, h4⟩ := hg
  have hk : ∀ b, W.heap.size + 1 ≤ b → b < W2.heap.size → (set4 (W2.alloc (.cells #[.int .i64 y.k, .int .i64 y.N, .string y.s, .slice y.a y.len y.cap] 24)) W.heap.size 0 y).heap[b]? = W2.heap[b]? := fun b hb1 hb2 => (set4_other _ _ _ _ (by omega)).trans (hB2.block b hb2)
  have hfs : (set4 (W2.alloc (.cells #[.int .i64 y.k, .int .i64 y.N, .string y.s, .slice y.a y.len y.cap] 24)) W.heap.size 0 y).heap.size = W2.heap.size + 1 := by rw [set4_size]; simp
  refine ⟨set4_below hBf (Nat.le_refl _) 0 y, ⟨t, h1, ?_, SpT.low (Nat.le_succ _) (SpT.high (by rw [hfs]; exact Nat.le_succ _) (SpT.kept hk h3)), h4⟩, ?_⟩
  · exact (h2.fromS (S := fun b => W.heap.size + 1 ≤ b ∧ b < W2.heap.size) (fun b hb => hk b hb.1 hb.2) h3.blk).mono (by rw [hfs]; exact Nat.le_succ _)
  · exact (hB2.block _ (by omega)).trans ((hb.block _ (by omega)).trans hz)
theorem trans_gives {n : Nat} (x : Tm (n + 2)) (n0 : Int) (w : World) (hT : IsT w.heap.size w x) (hl : (parts x).length ≤ 4194304) (hn : n ≤ 34359738368) (hv : ∀ N, IsVarOf (code x) N → N < n0) : ∀ W, Below w.heap.size w W →
    Calls Try.prog 8 #[x.tv.val] W fun e W' => ∃ (y : TV) (r : Int), e = .returned (.tuple #[y.val, .int .i64 r]) ∧ Below W.heap.size W W' ∧ GaveP (3 * n + 32) W.heap.size W' y (trC x n0) := fun W hb => by
  refine (trans_any x W ((hT.below hb).mono hb.size) hl hn).mono fun e W' h => ?_
  obtain ⟨y, h1, h2, h3⟩ := h
  exact ⟨y, _, h1, h3, gaveP_of (h2 n0 hv) (by omega) (wide_tr x hT.wl n0)⟩
theorem phrase_gives {n : Nat} (x y z : Tm n) (w : World) (hx : IsT w.heap.size w x) (hy : IsT w.heap.size w y) (hz : IsT w.heap.size w z) (lx : (parts x).length ≤ 4194304) (ly : (parts y).length ≤ 4194304) (lz : (parts z).length ≤ 4194304) (hn : n ≤ 274877906944) : ∀ W, Below w.heap.size w W →
    Calls Try.prog 10 #[x.tv.val, y.tv.val, z.tv.val] W fun e W' => ∃ (q : TV) (r : Int), e = .returned (.tuple #[q.val, .int .i64 r]) ∧ Below W.heap.size W W' ∧ GaveP (4 * n + 12) W.heap.size W' q (phrC x y z) := fun W hb => by
  refine (phrase_any x y z W ((hx.below hb).mono hb.size) ((hy.below hb).mono hb.size) ((hz.below hb).mono hb.size) lx ly lz hn).mono fun e W' h => ?_
  obtain ⟨q, h1, h2, h3⟩ := h
  exact ⟨q, _, h1, h3, gaveP_of h2 (by omega) (wide_phr x y z hx.wl)⟩

set_option maxRecDepth 100000 in
set_option maxHeartbeats 2000000 in
theorem gvgives1 {n : Nat} (x : Tm (n + 2)) (n0 : Int) (B : Nat) (w : World) (hT : IsT w.heap.size w x) (hB : BoxT w B x.tv) (hl : (parts x).length ≤ 4194304) (hn : n ≤ 34359738368) (hv : ∀ N, IsVarOf (code x) N → N < n0) : GivesP 7 #[.pointer (some ⟨B, 0, none⟩)] (3 * n + 32) (trC x n0) w := by
  intro W hb
  have hb1 : Below w.heap.size w (W.alloc (.cells #[.int .i64 0, .int .i64 0, .string ⟨#[]⟩, .slice none 0 0] 24)) := hb.alloc hb.size _
  have h1 := trans_gives x n0 w hT hl hn hv _ hb1
  have hbx0 := boxT_at hB hb1
  have x00 := hbx0.c0
  have x01 := hbx0.c1
  have x02 := hbx0.c2
  have x03 := hbx0.c3
  have hzb := World.alloc_heap_new W (.cells #[.int .i64 0, .int .i64 0, .string ⟨#[]⟩, .slice none 0 0] 24)
  have HZ := hide hzb
  simp only [TV.val] at h1
  clear hzb hbx0
  go_enter Try.func7, Try.ntmps7
  go_wp2_with fail
  refine h1.mono ?_
  clear h1 x00 x01 x02 x03
  rintro e W2 ⟨y, r, rfl, b2, hgv⟩
  obtain ⟨HF1, HF2, hz0⟩ := gaveP_end (W := W) b2 hgv (unhide HZ)
  obtain ⟨⟨z0, z1, z2, z3⟩, f0, f1, f2, f3⟩ := zbox_kept hz0
  have HG1 := hide HF1
  have HG2 := hide HF2
  clear HF1 HF2 hz0 b2 hgv
  go_wp2_with fail
  obtain ⟨t, rfl, t1, t2, t3⟩ := unhide HG2
  exact bodyPost_ret (v := t.tv.val) (by simp [results, Try.results7, go_sem, TV.val, z0, z1, z2, z3]) rfl ⟨t, rfl, unhide HG1, t1, t2, t3⟩
set_option maxRecDepth 100000 in
set_option maxHeartbeats 2000000 in
theorem gvgives2 {n : Nat} (x y z : Tm n) (B1 B2 B3 : Nat) (w : World) (hx : IsT w.heap.size w x) (hy : IsT w.heap.size w y) (hz : IsT w.heap.size w z) (hB1 : BoxT w B1 x.tv) (hB2 : BoxT w B2 y.tv) (hB3 : BoxT w B3 z.tv) (lx : (parts x).length ≤ 4194304) (ly : (parts y).length ≤ 4194304) (lz : (parts z).length ≤ 4194304) (hn : n ≤ 274877906944) : GivesP 9 #[.pointer (some ⟨B1, 0, none⟩), .pointer (some ⟨B2, 0, none⟩), .pointer (some ⟨B3, 0, none⟩)] (4 * n + 12) (phrC x y z) w := by
  intro W hb
  have hb1 : Below w.heap.size w (W.alloc (.cells #[.int .i64 0, .int .i64 0, .string ⟨#[]⟩, .slice none 0 0] 24)) := hb.alloc hb.size _
  have h1 := phrase_gives x y z w hx hy hz lx ly lz hn _ hb1
  have hbx0 := boxT_at hB1 hb1
  have x00 := hbx0.c0
  have x01 := hbx0.c1
  have x02 := hbx0.c2
  have x03 := hbx0.c3
  have hbx1 := boxT_at hB2 hb1
  have x10 := hbx1.c0
  have x11 := hbx1.c1
  have x12 := hbx1.c2
  have x13 := hbx1.c3
  have hbx2 := boxT_at hB3 hb1
  have x20 := hbx2.c0
  have x21 := hbx2.c1
  have x22 := hbx2.c2
  have x23 := hbx2.c3
  have hzb := World.alloc_heap_new W (.cells #[.int .i64 0, .int .i64 0, .string ⟨#[]⟩, .slice none 0 0] 24)
  have HZ := hide hzb
  simp only [TV.val] at h1
  clear hx hy hz hzb hbx0 hbx1 hbx2
  go_enter Try.func9, Try.ntmps9
  go_wp2_with fail
  refine h1.mono ?_
  clear h1 x00 x01 x02 x03 x10 x11 x12 x13 x20 x21 x22 x23
  rintro e W2 ⟨q, r, rfl, b2, hgv⟩
  obtain ⟨HF1, HF2, hz0⟩ := gaveP_end (W := W) b2 hgv (unhide HZ)
  obtain ⟨⟨z0, z1, z2, z3⟩, f0, f1, f2, f3⟩ := zbox_kept hz0
  have HG1 := hide HF1
  have HG2 := hide HF2
  clear HF1 HF2 hz0 b2 hgv
  go_wp2_with fail
  obtain ⟨t, rfl, t1, t2, t3⟩ := unhide HG2
  exact bodyPost_ret (v := t.tv.val) (by simp [results, Try.results9, go_sem, TV.val, z0, z1, z2, z3]) rfl ⟨t, rfl, unhide HG1, t1, t2, t3⟩
end Go.Proofs.Ytcdgmjpgmiehcaa

/- The contract of hornkeep.thereGrammar. -/
namespace Go.Proofs.Ytcdgmjpgmiehcaa
open Go.RowKit Go.Shelf Go.Maps

def leafT (s : ByteArray) : Tm 1 := ((atomV s, []) : TV × List (Tm 0))
def thereT (g : Nat) : Tm 2 := ((compV ⟨#[45, 45, 62]⟩ (some ⟨g, 0, none⟩) 2 2, [leafT ⟨#[115]⟩, leafT ⟨#[91, 93]⟩]) : TV × List (Tm 1))
theorem there_err (g : Nat) : trE (n := 0 + 1) (thereT g) = 0 := by kernel_rfl
theorem there_c (g : Nat) : code (thereT g) = [(4, 0, [45, 45, 62], 2), (3, 0, [115], 0), (3, 0, [91, 93], 0)] := by kernel_rfl
theorem there_code (g : Nat) : ∃ c, trC (n := 0) (thereT g) 0 = (4, 0, [58, 45], 2) :: c := by
  have hf : ∀ c, ∃ d, canon 0 ((4, 0, [58, 45], 2) :: c) = (4, 0, [58, 45], 2) :: d := fun c => by
    obtain ⟨f, e⟩ := canon_is 0 ((4, 0, [58, 45], 2) :: c)
    exact ⟨renC f c, by rw [e, renC_cons _ _ _ (by simp)]⟩
  unfold trC
  rw [if_pos (there_err g)]
  exact hf _
theorem there_vars (g : Nat) (N : Int) (h : IsVarOf (code (thereT g)) N) : N < 0 := by
  obtain ⟨y, hy, h1, _⟩ := h
  rw [there_c] at hy
  simp at hy
  rcases hy with rfl | rfl | rfl <;> simp at h1
theorem leaf_is {W : World} (s : ByteArray) (hs : s.size ≤ 100) : IsT W.heap.size W (leafT s) :=
  ⟨rfl, ⟨Nat.zero_le _, Nat.le_refl _, by decide⟩, Nat.le_trans hs (by decide), .inl rfl⟩
theorem there_is {W : World} {g : Nat} (h0 : cellsAt W g 0 (atomV ⟨#[115]⟩)) (h1 : cellsAt W g 4 (atomV ⟨#[91, 93]⟩)) (hg : g < W.heap.size) : IsT W.heap.size W (thereT g) := by
  refine ⟨rfl, ⟨by show (2 : Nat) ≤ _; omega, Nat.le_refl _, by decide⟩, by show (3 : Nat) ≤ _; omega, .inr ⟨g, 0, rfl, hg, fun j u hu => ?_⟩⟩
  match j, hu with
  | 0, hu =>
    obtain rfl : leafT ⟨#[115]⟩ = u := Option.some.inj hu
    exact ⟨h0, leaf_is _ (by decide)⟩
  | 1, hu =>
    obtain rfl : leafT ⟨#[91, 93]⟩ = u := Option.some.inj hu
    exact ⟨h1, leaf_is _ (by decide)⟩
  | k + 2, hu =>
    have hu' : ([] : List (Tm 1))[k]? = some u := hu
    simp at hu'
theorem there_trans {W : World} {g : Nat} (h0 : cellsAt W g 0 (atomV ⟨#[115]⟩)) (h1 : cellsAt W g 4 (atomV ⟨#[91, 93]⟩)) (hg : g < W.heap.size) :
    Calls Try.prog 8 #[(compV ⟨#[45, 45, 62]⟩ (some ⟨g, 0, none⟩) 2 2).val] W fun e W' => ∃ y : TV, e = .returned (.tuple #[y.val, .int .i64 0]) ∧ Below W.heap.size W W' ∧ isB y [58, 45] 2 = true := by
  refine (trans_any (n := 0) (thereT g) W (there_is h0 h1 hg) (by have h := congrArg List.length (there_c g); unfold code at h; rw [List.length_map] at h; rw [h]; decide) (by omega)).mono fun e W' h => ?_
  obtain ⟨y, e1, e2, e3⟩ := h
  rw [there_err g] at e1
  obtain ⟨t, k1, _, _, k4⟩ := e2 0 (there_vars g) 32 (by omega) (by omega)
  obtain ⟨c, hc⟩ := there_code g
  rw [hc] at k4
  obtain rfl := tv_inj k1
  refine ⟨_, e1, e3, ?_⟩
  obtain ⟨x, kids⟩ := t
  rw [code_succ] at k4
  have hn := (List.cons.inj k4).1
  simp only [TV.nd, Prod.mk.injEq] at hn
  simp [isB, Tm.tv, hn.1, hn.2.2.1, hn.2.2.2]
set_option maxRecDepth 100000 in
set_option maxHeartbeats 2000000 in
theorem thereGram_any (w : World) : Calls Try.prog 4 #[] w fun e W' => e = .returned (.bool true) ∧ Below w.heap.size w W' := by
  have HA := hide fun (s : ByteArray) (w : World) => ratom_any s w
  have HC := hide fun (s : ByteArray) (a : Option Addr) (len cap : Nat) (w : World) => rcompound_any s a len cap w
  have HT := hide fun (W : World) (g : Nat) h0 h1 hg => there_trans (W := W) (g := g) h0 h1 hg
  have HI := hide fun (x : TV) (w : World) => ris_any x ⟨#[58, 45]⟩ 2 w
  simp only [atomV, compV, TV.val] at HA HC HT HI
  go_enter Try.func4, Try.ntmps4
  go_wp2_with fail
  refine (HA.out _ _).mono ?_
  rintro e W1 ⟨rfl, b1⟩
  go_wp2_with fail
  refine (HA.out _ _).mono ?_
  rintro e W2 ⟨rfl, b2⟩
  have B2 : Below w.heap.size w W2 := b1.trans (b2.mono b1.size)
  clear HA
  go_wp2_with fail
  have hbA : Below W2.heap.size W2 (W2.alloc (.cells #[.int .i64 3, .int .i64 0, .string ⟨#[115]⟩, .slice none 0 0, .int .i64 3, .int .i64 0, .string ⟨#[91, 93]⟩, .slice none 0 0] 24)) := (Below.refl _ W2).alloc (Nat.le_refl _) _
  have hn := World.alloc_heap_new W2 (.cells #[.int .i64 3, .int .i64 0, .string ⟨#[115]⟩, .slice none 0 0, .int .i64 3, .int .i64 0, .string ⟨#[91, 93]⟩, .slice none 0 0] 24)
  obtain ⟨W3, hW3⟩ : ∃ W3, W2.alloc (.cells #[.int .i64 3, .int .i64 0, .string ⟨#[115]⟩, .slice none 0 0, .int .i64 3, .int .i64 0, .string ⟨#[91, 93]⟩, .slice none 0 0] 24) = W3 := ⟨_, rfl⟩
  rw [hW3] at hbA hn ⊢
  have hlt : W2.heap.size < W3.heap.size := (Array.getElem?_eq_some_iff.1 hn).1
  clear hW3
  refine (HC.out _ _ _ _ _).mono ?_
  rintro e W4 ⟨rfl, b4⟩
  have hn4 : W4.heap[W2.heap.size]? = _ := (b4.block _ hlt).trans hn
  have ht := HT.out W4 W2.heap.size ⟨cell_of hn4 rfl, cell_of hn4 rfl, cell_of hn4 rfl, cell_of hn4 rfl⟩ ⟨cell_of hn4 rfl, cell_of hn4 rfl, cell_of hn4 rfl, cell_of hn4 rfl⟩ (Nat.lt_of_lt_of_le hlt b4.size)
  have B4 : Below w.heap.size w W4 := (B2.trans (hbA.mono B2.size)).trans (b4.mono (by have := B2.size; have := hbA.size; omega))
  clear HT HC hn hn4
  go_wp2_with fail
  refine ht.mono ?_
  clear ht
  rintro e W5 ⟨y, rfl, b5, hy⟩
  have B5 : Below w.heap.size w W5 := B4.trans (b5.mono B4.size)
  have HB := hide (And.intro B5 hy)
  have hi := HI.out y
  clear HI B5 hy b5 B4 b4 hbA B2 b2 b1 hlt
  go_wp2_with fail
  refine (hi _).mono ?_
  rintro e W6 ⟨rfl, b6⟩
  obtain ⟨B5, hy⟩ := unhide HB
  rw [show (⟨#[58, 45]⟩ : ByteArray).toList = [58, 45] by decide +kernel, hy]
  have HF : Hid (Below w.heap.size w W6) := hide ((B5.alloc B5.size _).trans (b6.mono (by simp; have := B5.size; omega)))
  clear hi HB B5 hy b6
  go_wp2_with fail
  go_ret
  exact ⟨rfl, unhide HF⟩
end Go.Proofs.Ytcdgmjpgmiehcaa

/- Copies and boxes, in whatever order they are made: what holds at every moment. (By wip/gvfour.py, off Mrv.) -/
namespace Go.Proofs.Ytcdgmjpgmiehcaa
open Go.RowKit Go.Shelf Go.Maps

/-- What comes out of a copying stays: it is apart from the blocks of X. -/
structure StaysT (R : (Nat → Prop) → World → Value → Prop) : Prop where
  below : ∀ {X : Nat → Prop} {W W' : World} {v : Value}, R X W v → Below W.heap.size W W' → R X W' v
  add : ∀ {X X' : Nat → Prop} {W : World} {v : Value}, R X W v → (∀ b, X' b → X b ∨ W.heap.size ≤ b) → R X' W v
  write : ∀ {X : Nat → Prop} {W W' : World} {v : Value} {B : Nat}, R X W v → X B → (∀ b, b ≠ B → W'.heap[b]? = W.heap[b]?) → W'.heap.size = W.heap.size → R X W' v
def CopT (lo n : Nat) (c : List Nd) (X : Nat → Prop) (W : World) (v : Value) : Prop := ∃ x : Tm n, v = x.tv.val ∧ Owned lo W x ∧ BlkT (fun b => ¬ X b) x ∧ code x = c
theorem apart_addT {X X' : Nat → Prop} {s n : Nat} {x : Tm n} (h : BlkT (fun b => ¬ X b) x) (hs : BlkT (· < s) x) (hX : ∀ b, X' b → X b ∨ s ≤ b) : BlkT (fun b => ¬ X' b) x :=
  (h.and hs).mono fun b ⟨h1, h2⟩ h3 => (hX b h3).elim h1 fun h => by omega
theorem copT_stays (lo n : Nat) (c : List Nd) : StaysT (CopT lo n c) where
  below := fun ⟨x, h1, h2, h3, h4⟩ hb => ⟨x, h1, h2.below hb, h3, h4⟩
  add := fun ⟨x, h1, h2, h3, h4⟩ hX => ⟨x, h1, h2, apart_addT h3 h2.is.blk hX, h4⟩
  write := fun ⟨x, h1, h2, h3, h4⟩ hB hw hs => ⟨x, h1, h2.fromS h3 (fun b hb _ _ => hw b fun e => hb (e ▸ hB)) (Nat.le_of_eq hs.symm), h3, h4⟩
/-- What a copying answers is apart from all that was there. -/
theorem copT_new {n lo : Nat} {c : List Nd} {W W' : World} {x : Tm n} (h : Owned W.heap.size W' x) (hlo : lo ≤ W.heap.size) (hc : code x = c) : CopT lo n c (fun b => b < W.heap.size) W' x.tv.val :=
  ⟨x, rfl, h.mono hlo, h.blk.mono fun b hb h' => by omega, hc⟩
/-- c: which copyings are done, al: which boxes are there, st: which are filled. -/
structure RegT (lo : Nat) (R : Nat → (Nat → Prop) → World → Value → Prop) (Z : Nat → Obj) (O : Nat → Value → Obj) (c al st : Nat → Bool) (V : Nat → Value) (P : Nat → Nat) (W : World) : Prop where
  res : ∀ j, c j = true → R j (fun b => ∃ k, al k = true ∧ P k = b) W (V j)
  box : ∀ j, al j = true → lo ≤ P j ∧ P j < W.heap.size ∧ W.heap[P j]? = some (if st j = true then O j (V j) else Z j)
  sep : ∀ i j, al i = true → al j = true → P i = P j → i = j
section
variable {lo : Nat} {R : Nat → (Nat → Prop) → World → Value → Prop} {Z : Nat → Obj} {O : Nat → Value → Obj} {c al st : Nat → Bool} {V : Nat → Value} {P : Nat → Nat} {W W' : World}
theorem RegT.below (h : RegT lo R Z O c al st V P W) (hR : ∀ j, StaysT (R j)) (hb : Below W.heap.size W W') : RegT lo R Z O c al st V P W' :=
  ⟨fun j hj => (hR j).below (h.res j hj) hb, fun j hj => let ⟨h1, h2, h3⟩ := h.box j hj; ⟨h1, Nat.lt_of_lt_of_le h2 hb.size, (hb.block _ h2).trans h3⟩, h.sep⟩
theorem RegT.call (h : RegT lo R Z O c al st V P W) (hR : ∀ j, StaysT (R j)) {j : Nat} {v : Value} (hst : st j = false) (hb : Below W.heap.size W W') (hv : R j (fun b => b < W.heap.size) W' v) : RegT lo R Z O (upd c j true) al st (upd V j v) P W' := by
  have h' := h.below hR hb
  refine ⟨fun i hi => ?_, fun i hi => ?_, h'.sep⟩
  · by_cases e : i = j
    · subst e
      rw [upd_at]
      exact (hR i).add hv fun b ⟨k, hk, e⟩ => .inl (e ▸ (h.box k hk).2.1)
    · rw [upd_off _ _ e]
      rw [upd_off _ _ e] at hi
      exact h'.res i hi
  · obtain ⟨h1, h2, h3⟩ := h'.box i hi
    refine ⟨h1, h2, h3.trans ?_⟩
    by_cases e : i = j
    · subst e; simp [hst]
    · rw [upd_off _ _ e]
theorem RegT.alloc (h : RegT lo R Z O c al st V P W) (hR : ∀ j, StaysT (R j)) {j : Nat} (hst : st j = false) (hal : al j = false) (hlo : lo ≤ W.heap.size) (hb : Below W.heap.size W W') (hs : W.heap.size < W'.heap.size) (hn : W'.heap[W.heap.size]? = some (Z j)) : RegT lo R Z O c (upd al j true) st V (upd P j W.heap.size) W' := by
  have h' := h.below hR hb
  refine ⟨fun i hi => ?_, fun i hi => ?_, fun i k hi hk e => ?_⟩
  · refine (hR i).below ((hR i).add (h.res i hi) fun b ⟨k, hk, e⟩ => ?_) hb
    by_cases ek : k = j
    · subst ek; rw [upd_at] at e; exact .inr (Nat.le_of_eq e)
    · rw [upd_off _ _ ek] at e hk; exact .inl ⟨k, hk, e⟩
  · by_cases e : i = j
    · subst e; rw [upd_at, if_neg (by simp [hst])]; exact ⟨hlo, hs, hn⟩
    · rw [upd_off _ _ e] at hi ⊢; exact h'.box i hi
  · by_cases ei : i = j <;> by_cases ek : k = j
    · rw [ei, ek]
    · subst ei; rw [upd_at, upd_off _ _ ek] at e; rw [upd_off _ _ ek] at hk; have := (h.box k hk).2.1; omega
    · subst ek; rw [upd_at, upd_off _ _ ei] at e; rw [upd_off _ _ ei] at hi; have := (h.box i hi).2.1; omega
    · rw [upd_off _ _ ei] at e hi; rw [upd_off _ _ ek] at e hk; exact h.sep i k hi hk e
theorem RegT.store (h : RegT lo R Z O c al st V P W) (hR : ∀ j, StaysT (R j)) {j : Nat} (hal : al j = true) (hw : ∀ b, b ≠ P j → W'.heap[b]? = W.heap[b]?) (hs : W'.heap.size = W.heap.size) (hn : W'.heap[P j]? = some (O j (V j))) : RegT lo R Z O c al (upd st j true) V P W' := by
  refine ⟨fun i hi => (hR i).write (h.res i hi) ⟨j, hal, rfl⟩ hw hs, fun i hi => ?_, h.sep⟩
  obtain ⟨h1, h2, h3⟩ := h.box i hi
  refine ⟨h1, by rw [hs]; exact h2, ?_⟩
  by_cases e : i = j
  · subst e; rw [upd_at, if_pos rfl]; exact hn
  · rw [upd_off _ _ e]
    exact (hw _ fun e' => e (h.sep i j hi hal e')).trans h3
end
end Go.Proofs.Ytcdgmjpgmiehcaa

