import Derived.Test.YtlbobmebbllifaaGreatBcDs
import Derived.Test.YtlbobmebbllifaaGreatBaM
/- (*base.family).lay. (Written by wip/layfgen.py.) -/
namespace Go.Proofs.YtlbobmebbllifaaGreat
open Go.RowKit Go.Shelf Go.Maps
def EnBlk (W : World) (eb : Nat) (pl : Int) (hx bx : TV) : Prop := W.heap[eb]? = some (.cells #[.int .i64 pl, .int .i64 hx.k, .int .i64 hx.N, .string hx.s, .slice hx.a hx.len hx.cap, .int .i64 bx.k, .int .i64 bx.N, .string bx.s, .slice bx.a bx.len bx.cap, .pointer none] 76 (0, 0))
theorem EnBlk.lt {W : World} {eb : Nat} {pl : Int} {hx bx : TV} (h : EnBlk W eb pl hx bx) : eb < W.heap.size := (Array.getElem?_eq_some_iff.1 h).1
theorem EnBlk.cs {W : World} {eb : Nat} {pl : Int} {hx bx : TV} (h : EnBlk W eb pl hx bx) : W.cell? ⟨eb, 0, none⟩ = some (.int .i64 pl) ∧ (W.cell? ⟨eb, 1, none⟩ = some (.int .i64 hx.k) ∧ W.cell? ⟨eb, 2, none⟩ = some (.int .i64 hx.N) ∧ W.cell? ⟨eb, 3, none⟩ = some (.string hx.s) ∧ W.cell? ⟨eb, 4, none⟩ = some (.slice hx.a hx.len hx.cap)) ∧ W.cell? ⟨eb, 5, none⟩ = some (.int .i64 bx.k) ∧ W.cell? ⟨eb, 6, none⟩ = some (.int .i64 bx.N) ∧ W.cell? ⟨eb, 7, none⟩ = some (.string bx.s) ∧ W.cell? ⟨eb, 8, none⟩ = some (.slice bx.a bx.len bx.cap) := by
 have h' : W.heap[eb]? = _ := h
 refine ⟨?_, ⟨?_, ?_, ?_, ?_⟩, ?_, ?_, ?_, ?_⟩ <;> simp [World.cell?, h']
def FmBlk (W : World) (fb : Nat) (all : Option Addr) (km : Nat) : Prop := W.heap[fb]? = some (.cells #[.pointer all, .map (some km)] 106 (0, 0))
theorem FmBlk.lt {W : World} {fb : Nat} {all : Option Addr} {km : Nat} (h : FmBlk W fb all km) : fb < W.heap.size := (Array.getElem?_eq_some_iff.1 h).1
theorem FmBlk.cs {W : World} {fb : Nat} {all : Option Addr} {km : Nat} (h : FmBlk W fb all km) : W.cell? ⟨fb, 0, none⟩ = some (.pointer all) ∧ W.cell? ⟨fb, 1, none⟩ = some (.map (some km)) ∧ W.frozen? ⟨fb, 0, none⟩ = false := by
 have h' : W.heap[fb]? = _ := h
 refine ⟨?_, ?_, ?_⟩ <;> simp [World.cell?, World.frozen?, h']
theorem FmBlk.set {W : World} {fb : Nat} {all : Option Addr} {km : Nat} (h : FmBlk W fb all km) (p : Option Addr) : FmBlk (W.setCell ⟨fb, 0, none⟩ (.pointer p)) fb p km := by
 have h' : W.heap[fb]? = _ := h
 obtain ⟨hlt, hk⟩ := Array.getElem?_eq_some_iff.1 h'
 show (W.heap.modify fb _)[fb]? = _
 rw [Array.getElem?_eq_getElem (by rw [Array.size_modify]; exact hlt), Array.getElem_modify_self, hk]
 rfl
def MapB (W : World) (k : Nat) : Prop := ∃ es c, W.heap[k]? = some (.map es c)
theorem PM.mapB {k : TypeId} {W : World} {b n : Nat} {g : Lit → Option Addr} (h : PM k W b n g) : MapB W b := by
 obtain ⟨E, ⟨es, clock, e1, _⟩, _⟩ := h
 exact ⟨es, clock, e1⟩
def WithC (eb : Nat) (R : Option Addr → Nat → World → Prop) (p : Option Addr) (V : World) : Prop := Calls Tryz.prog 48 #[.pointer p, .pointer (some ⟨eb, 0, none⟩)] V fun e V' => ∃ q, e = .returned (.pointer (some ⟨q, 0, none⟩)) ∧ V.heap.size ≤ q ∧ Below V.heap.size V V' ∧ R p q V'
set_option maxRecDepth 100000 in
set_option maxHeartbeats 4000000 in
theorem lay_any (fb km eb : Nat) (all : Option Addr) (cnt : Nat) (gk : Lit → Option Addr) (pl : Int) {n : Nat} (th : Tm (n + 1)) (bx : TV) (kl : Lit) (R : Option Addr → Nat → World → Prop) (W : World)
  (hf : FmBlk W fb all km) (hm : PM 89 W km cnt gk) (hcnt : cnt < maxLen) (he : EnBlk W eb pl th.tv bx) (hT : IsT W.heap.size W th) (hkl : keyOf Tryz.prog 89 (keyOfV th) = some kl) (hne : fb ≠ km)
  (hW1 : ∀ V, Below W.heap.size W V → WithC eb R all V) (hW2 : ∀ V, GrB (fun k => k = fb) W.heap.size W V → (∃ a, FmBlk V fb a km) → WithC eb R (gk kl) V)
  (hR : ∀ p q V V', R p q V → W.heap.size ≤ q → GrB (fun k => k = fb ∨ k = km) V.heap.size V V' → (∃ a, FmBlk V fb a km) → MapB V km → R p q V') :
  Calls Tryz.prog 32 #[.pointer (some ⟨fb, 0, none⟩), .pointer (some ⟨eb, 0, none⟩)] W fun e W' => e = .returned (.tuple #[]) ∧ ∃ q1 q2, W.heap.size ≤ q1 ∧ W.heap.size ≤ q2 ∧ FmBlk W' fb (some ⟨q1, 0, none⟩) km ∧ PM 89 W' km (cnt + 1) (updL gk kl ⟨q2, 0, none⟩) ∧ R all q1 W' ∧ R (gk kl) q2 W' ∧ GrB (fun k => k = fb ∨ k = km) W.heap.size W W' := by
 have hk0 := keyOf_any th W hT
 obtain ⟨e0, ⟨e1, e2, e3, e4⟩, -⟩ := he.cs
 have hfl := hf.lt
 have hml := hm.lt
 unfold keyOfV at hk0 hkl
 generalize (keyOfT th).1 = k1 at *
 generalize (keyOfT th).2.1 = k2 at *
 generalize (keyOfT th).2.2.1 = k3 at *
 generalize (keyOfT th).2.2.2 = k4 at *
 have HH := hide (And.intro hf (And.intro hm (And.intro hcnt (And.intro hne hkl))))
 have HW1 := hide hW1
 have HW2 := hide hW2
 have HR := hide hR
 clear hf hm hcnt he hT hkl hne hW1 hW2 hR e0
 simp only [keyV, TV.val] at hk0
 go_enter Tryz.func32, Tryz.ntmps32
 go_wp2_with fail
 refine hk0.mono ?_
 clear hk0 e1 e2 e3 e4
 rintro e V1 ⟨rfl, b1⟩
 have hb2 : Below V1.heap.size V1 (V1.alloc (.cells #[.int .i64 k1, .int .i64 k2, .string k3, .int .i64 (k4 : Int)] 89)) := (Below.refl _ V1).alloc (Nat.le_refl _) _
 have hkb := World.alloc_heap_new V1 (.cells #[.int .i64 k1, .int .i64 k2, .string k3, .int .i64 (k4 : Int)] 89)
 have hB2 : Below W.heap.size W (V1.alloc (.cells #[.int .i64 k1, .int .i64 k2, .string k3, .int .i64 (k4 : Int)] 89)) := b1.trans (hb2.mono b1.size)
 have hf2 : FmBlk (V1.alloc (.cells #[.int .i64 k1, .int .i64 k2, .string k3, .int .i64 (k4 : Int)] 89)) fb all km := (hB2.block fb hfl).trans (unhide HH).1
 have hm2 := (unhide HH).2.1.kept (hB2.block km hml)
 have hw1 := (unhide HW1) _ hB2
 unfold WithC at hw1
 obtain ⟨f0, f1, -⟩ := hf2.cs
 have hs2 : (V1.alloc (.cells #[.int .i64 k1, .int .i64 k2, .string k3, .int .i64 (k4 : Int)] 89)).heap.size = V1.heap.size + 1 := by simp
 have hs1 := b1.size
 have H2 := hide (And.intro hB2 (And.intro hf2 (And.intro hm2 (And.intro hkb hs2))))
 clear hb2 hkb hB2 hf2 hm2 b1 HW1 hs2
 go_wp2_with fail
 refine hw1.mono ?_
 clear hw1 f0 f1
 rintro e V3 ⟨q1, rfl, hq1, b3, r1⟩
 obtain ⟨hB2, hf2, hm2, hkb, hs2⟩ := unhide H2
 have hs3 := b3.size
 have hf3 : FmBlk V3 fb all km := (b3.block fb (by omega)).trans hf2
 have hm3 := hm2.kept (b3.block km (by omega))
 have hkb3 := (b3.block V1.heap.size (by omega)).trans hkb
 have hB3 : Below W.heap.size W V3 := hB2.trans (b3.mono (by omega))
 obtain ⟨f0, f1, fz⟩ := hf3.cs
 have hf4 := hf3.set (some ⟨q1, 0, none⟩)
 have hne := (unhide HH).2.2.2.1
 have hm4 := hm3.kept (W := V3.setCell ⟨fb, 0, none⟩ (.pointer (some ⟨q1, 0, none⟩))) (Below.heap_setCell _ _ _ _ (by simpa using hne.symm))
 have hkb4 : (V3.setCell ⟨fb, 0, none⟩ (.pointer (some ⟨q1, 0, none⟩))).heap[V1.heap.size]? = _ := (Below.heap_setCell _ _ _ _ (by simp; omega)).trans hkb3
 have hg4 : GrB (fun k => k = fb) W.heap.size W (V3.setCell ⟨fb, 0, none⟩ (.pointer (some ⟨q1, 0, none⟩))) := ⟨hB3.os, hB3.tape, hB3.output, by simp; omega, fun k hk hx => (Below.heap_setCell _ _ _ _ (by simpa using hx)).trans (hB3.block k hk)⟩
 have r1' := (unhide HR) all q1 V3 (V3.setCell ⟨fb, 0, none⟩ (.pointer (some ⟨q1, 0, none⟩))) r1 (by omega) ⟨rfl, rfl, rfl, by simp, fun k hk hx => Below.heap_setCell _ _ _ _ (by simp; exact fun e => hx (.inl e))⟩ ⟨_, hf3⟩ hm3.mapB
 have hs4 : V3.heap.size ≤ (V3.setCell ⟨fb, 0, none⟩ (.pointer (some ⟨q1, 0, none⟩))).heap.size := by simp
 have H4 := hide (And.intro hf4 (And.intro hm4 (And.intro hkb4 (And.intro hg4 (And.intro r1' (And.intro hs4 (And.intro hq1 hs2)))))))
 clear H2 hB2 hf2 hm2 hkb hf3 hm3 hkb3 hB3 hf4 hm4 hkb4 hg4 r1 r1' b3 f1 hne hs4 hq1 hs2
 go_wp2_with fail
 obtain ⟨V4, hV4⟩ : ∃ V4, V3.setCell ⟨fb, 0, none⟩ (.pointer (some ⟨q1, 0, none⟩)) = V4 := ⟨_, rfl⟩
 have Q4 := unhide H4
 rw [hV4] at Q4
 try rw [hV4]
 clear H4 hV4 f0 fz
 obtain ⟨hf4, hm4, hkb4, hg4, r1', hs4, hq1, hs2⟩ := Q4
 have hkl := (unhide HH).2.2.2.2
 simp only [keyV] at hkl
 have hlk : ∀ w', w'.heap[km]? = V4.heap[km]? → (Instr.lookup 103 (.map (some km)) (.agg #[.int .i64 k1, .int .i64 k2, .string k3, .int .i64 (k4 : Int)]) false).run Tryz.prog w' = .ok (.pointer (gk kl)) w' := fun w' hw => (hm4.kept hw).look1 Tryz.keyedKey Tryz.underlying103 (Tryz.zeroPtr71 _) hkl
 have hw2 := (unhide HW2) V4.drew ⟨hg4.os, hg4.tape, hg4.output, hg4.size, hg4.block⟩ ⟨_, hf4⟩
 unfold WithC at hw2
 have hVs : V4.drew.heap.size = V4.heap.size := rfl
 obtain ⟨_, f1, _⟩ := hf4.cs
 have KEEP : V4.cell? ⟨fb, 1, none⟩ = some (.map (some km)) ∧ V4.cell? ⟨V1.heap.size, 0, none⟩ = some (.int .i64 k1) ∧ V4.cell? ⟨V1.heap.size, 1, none⟩ = some (.int .i64 k2) ∧ V4.cell? ⟨V1.heap.size, 2, none⟩ = some (.string k3) ∧ V4.cell? ⟨V1.heap.size, 3, none⟩ = some (.int .i64 (k4 : Int)) := ⟨f1, by simp [World.cell?, hkb4], by simp [World.cell?, hkb4], by simp [World.cell?, hkb4], by simp [World.cell?, hkb4]⟩
 have HV := hide (And.intro hf4 (And.intro hm4 (And.intro hkb4 (And.intro hg4 (And.intro r1' (And.intro hs4 (And.intro hq1 hs2)))))))
 have hlk4 := hlk V4.drew rfl
 have HKL := hide hkl
 have hkbl : V1.heap.size < V4.heap.size := (Array.getElem?_eq_some_iff.1 hkb4).1
 have hfl4 : fb < V4.heap.size := hf4.lt
 have hml4 : km < V4.heap.size := hm4.lt
 clear hf4 hm4 hkb4 hg4 r1' f1 hlk hkl hs4 hq1 hs2 HW2
 go_wp2_with fail
 refine wp_region_noPanic ?_
 refine wp_region_held_drew (S := (fun w' => w'.cell? ⟨fb, 1, none⟩ = some (.map (some km)) ∧ w'.cell? ⟨V1.heap.size, 0, none⟩ = some (.int .i64 k1) ∧ w'.cell? ⟨V1.heap.size, 1, none⟩ = some (.int .i64 k2) ∧ w'.cell? ⟨V1.heap.size, 2, none⟩ = some (.string k3) ∧ w'.cell? ⟨V1.heap.size, 3, none⟩ = some (.int .i64 (k4 : Int)))) (by kernel_rfl) ?_ (fun hHeld => ?_)
 ·exact KEEP
 refine wpAnyH_take (i := 0) (oi := { dst := some 20, op := Op.move (Operand.tmp 0), type := 77, pos := "look.go:111", after := #[], guard := none }) (v := ?_) rfl (by kernel_rfl) (by kernel_rfl) (by kernel_rfl) (fun _ _ _ h => h) (Or.inl ⟨by rfl, ?_⟩) hHeld ?_
 rotate_left
 ·(intro w' hSw; (try dsimp only at hSw); go_simp; try with_reducible rfl)
 try simp only [Act.put, List.setIfInBounds_toArray, List.set_cons_zero, List.set_cons_succ]
 refine wpAnyH_take (i := 1) (oi := { dst := some 21, op := Op.nilCheck (Operand.tmp 20), type := 0, pos := "look.go:111", after := #[{ on := 0, ground := Ground.data }], guard := none }) (v := ?_) rfl (by kernel_rfl) (by kernel_rfl) (by kernel_rfl) (fun _ _ _ h => h) (Or.inl ⟨by rfl, ?_⟩) hHeld ?_
 rotate_left
 ·(intro w' hSw; (try dsimp only at hSw); go_simp; try with_reducible rfl)
 try simp only [Act.put, List.setIfInBounds_toArray, List.set_cons_zero, List.set_cons_succ]
 refine wpAnyH_take (i := 2) (oi := { dst := some 22, op := Op.fieldAddr 106 (Operand.tmp 21) 1, type := 0, pos := "look.go:111", after := #[{ on := 1, ground := Ground.data }], guard := none }) (v := ?_) rfl (by kernel_rfl) (by kernel_rfl) (by kernel_rfl) (fun _ _ _ h => h) (Or.inl ⟨by rfl, ?_⟩) hHeld ?_
 rotate_left
 ·(intro w' hSw; (try dsimp only at hSw); go_simp; try with_reducible rfl)
 try simp only [Act.put, List.setIfInBounds_toArray, List.set_cons_zero, List.set_cons_succ]
 refine wpAnyH_take (i := 3) (oi := { dst := some 23, op := Op.load 103 (Operand.tmp 22), type := 103, pos := "look.go:111", after := #[{ on := 2, ground := Ground.data }], guard := none }) (v := ?_) rfl (by kernel_rfl) (by kernel_rfl) (by kernel_rfl) (fun _ _ _ h => h) (Or.inl ⟨by rfl, ?_⟩) hHeld ?_
 rotate_left
 ·(intro w' hSw; (try dsimp only at hSw); go_simp; try with_reducible rfl)
 try simp only [Act.put, List.setIfInBounds_toArray, List.set_cons_zero, List.set_cons_succ]
 refine wpAnyH_take (i := 4) (oi := { dst := some 24, op := Op.load 89 (Operand.tmp 4), type := 89, pos := "look.go:111", after := #[], guard := none }) (v := ?_) rfl (by kernel_rfl) (by kernel_rfl) (by kernel_rfl) (fun _ _ _ h => h) (Or.inl ⟨by rfl, ?_⟩) hHeld ?_
 rotate_left
 ·(intro w' hSw; (try dsimp only at hSw); go_simp; try with_reducible rfl)
 try simp only [Act.put, List.setIfInBounds_toArray, List.set_cons_zero, List.set_cons_succ]
 refine wpAnyH_take (i := 5) (oi := { dst := some 25, op := Op.move (Operand.tmp 0), type := 77, pos := "look.go:111", after := #[], guard := none }) (v := ?_) rfl (by kernel_rfl) (by kernel_rfl) (by kernel_rfl) (fun _ _ _ h => h) (Or.inl ⟨by rfl, ?_⟩) hHeld ?_
 rotate_left
 ·(intro w' hSw; (try dsimp only at hSw); go_simp; try with_reducible rfl)
 try simp only [Act.put, List.setIfInBounds_toArray, List.set_cons_zero, List.set_cons_succ]
 refine wpAnyH_take (i := 6) (oi := { dst := some 26, op := Op.nilCheck (Operand.tmp 25), type := 0, pos := "look.go:111", after := #[{ on := 5, ground := Ground.data }], guard := none }) (v := ?_) rfl (by kernel_rfl) (by kernel_rfl) (by kernel_rfl) (fun _ _ _ h => h) (Or.inl ⟨by rfl, ?_⟩) hHeld ?_
 rotate_left
 ·(intro w' hSw; (try dsimp only at hSw); go_simp; try with_reducible rfl)
 try simp only [Act.put, List.setIfInBounds_toArray, List.set_cons_zero, List.set_cons_succ]
 refine wpAnyH_take (i := 7) (oi := { dst := some 27, op := Op.fieldAddr 106 (Operand.tmp 26) 1, type := 0, pos := "look.go:111", after := #[{ on := 6, ground := Ground.data }], guard := none }) (v := ?_) rfl (by kernel_rfl) (by kernel_rfl) (by kernel_rfl) (fun _ _ _ h => h) (Or.inl ⟨by rfl, ?_⟩) hHeld ?_
 rotate_left
 ·(intro w' hSw; (try dsimp only at hSw); go_simp; try with_reducible rfl)
 try simp only [Act.put, List.setIfInBounds_toArray, List.set_cons_zero, List.set_cons_succ]
 refine wpAnyH_take (i := 8) (oi := { dst := some 28, op := Op.load 103 (Operand.tmp 27), type := 103, pos := "look.go:111", after := #[{ on := 7, ground := Ground.data }], guard := none }) (v := ?_) rfl (by kernel_rfl) (by kernel_rfl) (by kernel_rfl) (fun _ _ _ h => h) (Or.inl ⟨by rfl, ?_⟩) hHeld ?_
 rotate_left
 ·(intro w' hSw; (try dsimp only at hSw); go_simp; try with_reducible rfl)
 try simp only [Act.put, List.setIfInBounds_toArray, List.set_cons_zero, List.set_cons_succ]
 refine wpAnyH_take (i := 9) (oi := { dst := some 29, op := Op.load 89 (Operand.tmp 4), type := 89, pos := "look.go:111", after := #[], guard := none }) (v := ?_) rfl (by kernel_rfl) (by kernel_rfl) (by kernel_rfl) (fun _ _ _ h => h) (Or.inl ⟨by rfl, ?_⟩) hHeld ?_
 rotate_left
 ·(intro w' hSw; (try dsimp only at hSw); go_simp; try with_reducible rfl)
 try simp only [Act.put, List.setIfInBounds_toArray, List.set_cons_zero, List.set_cons_succ]
 refine wpAnyH_take (i := 11) (oi := { dst := some 31, op := Op.move (Operand.tmp 1), type := 67, pos := "look.go:111", after := #[], guard := none }) (v := ?_) rfl (by kernel_rfl) (by kernel_rfl) (by kernel_rfl) (fun _ _ _ h => h) (Or.inl ⟨by rfl, ?_⟩) hHeld ?_
 rotate_left
 ·(intro w' hSw; (try dsimp only at hSw); go_simp; try with_reducible rfl)
 try simp only [Act.put, List.setIfInBounds_toArray, List.set_cons_zero, List.set_cons_succ]
 refine wpAnyH_ready (rs := [10]) (by kernel_rfl) (by simp) ?_
 refine AllReadyH.cons (o := { dst := some 30, op := Op.lookup 103 (Operand.tmp 28) (Operand.tmp 29) false, type := 104, pos := "look.go:111", after := #[{ on := 8, ground := Ground.data }, { on := 9, ground := Ground.data }], guard := none }) rfl (fun K hK => ?_) AllReadyH.nil
 have hHold := hHeld
 clear hHeld
 go_simp
 refine hK.out _ _ ?_ (fun hHeld => ?_)
 ·((try dsimp only); exact KEEP)
 clear hK K hHold
 try simp only [Act.put, List.setIfInBounds_toArray, List.set_cons_zero, List.set_cons_succ]
 refine wpAnyH_ready (rs := [12]) (by kernel_rfl) (by simp) ?_
 refine AllReadyH.cons (o := { dst := some 32, op := Op.call { callee := Callee.value (Operand.func 48), args := #[Operand.tmp 30, Operand.tmp 31], argTypes := #[104, 67] }, type := 104, pos := "look.go:111", after := #[{ on := 10, ground := Ground.data }, { on := 11, ground := Ground.data }], guard := none }) rfl (fun K hK => ?_) AllReadyH.nil
 have hHold := hHeld
 clear hHeld
 go_simp
 refine hw2.mono ?_
 clear hw2 hlk4
 rintro e V5 ⟨q2, rfl, hq2, b5, r2⟩
 have s5 := b5.size
 have kc : ∀ k o, k < V4.heap.size → V5.cell? ⟨k, o, none⟩ = V4.cell? ⟨k, o, none⟩ := fun k o hk => World.cell?_of_block (a := ⟨k, o, none⟩) (w := V4) (b5.block k hk)
 have KEEP : V5.cell? ⟨fb, 1, none⟩ = some (.map (some km)) ∧ V5.cell? ⟨V1.heap.size, 0, none⟩ = some (.int .i64 k1) ∧ V5.cell? ⟨V1.heap.size, 1, none⟩ = some (.int .i64 k2) ∧ V5.cell? ⟨V1.heap.size, 2, none⟩ = some (.string k3) ∧ V5.cell? ⟨V1.heap.size, 3, none⟩ = some (.int .i64 (k4 : Int)) := ⟨(kc _ _ hfl4).trans KEEP.1, (kc _ _ hkbl).trans KEEP.2.1, (kc _ _ hkbl).trans KEEP.2.2.1, (kc _ _ hkbl).trans KEEP.2.2.2.1, (kc _ _ hkbl).trans KEEP.2.2.2.2⟩
 clear kc
 go_wp2_with fail
 refine hK.out _ _ ?_ (fun hHeld => ?_)
 ·((try dsimp only); exact KEEP)
 clear hK K hHold
 try simp only [Act.put, List.setIfInBounds_toArray, List.set_cons_zero, List.set_cons_succ]
 refine wpAnyH_ready (rs := [13]) (by kernel_rfl) (by simp) ?_
 refine AllReadyH.cons (o := { dst := none, op := Op.mapUpdate 103 (Operand.tmp 23) (Operand.tmp 24) (Operand.tmp 32), type := 0, pos := "look.go:111", after := #[{ on := 3, ground := Ground.data }, { on := 4, ground := Ground.data }, { on := 12, ground := Ground.data }, { on := 12, ground := Ground.chain }, { on := 0, ground := Ground.phase }, { on := 1, ground := Ground.phase }, { on := 2, ground := Ground.phase }, { on := 3, ground := Ground.phase }, { on := 4, ground := Ground.phase }, { on := 5, ground := Ground.phase }, { on := 6, ground := Ground.phase }, { on := 7, ground := Ground.phase }, { on := 8, ground := Ground.phase }, { on := 9, ground := Ground.phase }, { on := 10, ground := Ground.phase }, { on := 11, ground := Ground.phase }, { on := 12, ground := Ground.phase }], guard := none }) rfl (fun K hK => ?_) AllReadyH.nil
 have hHold := hHeld
 clear hHeld
 obtain ⟨W', hup, hpm, hgr⟩ := ((unhide HV).2.1.kept (b5.block km hml4)).put Tryz.keyedKey Tryz.underlying103 (unhide HH).2.2.1 (unhide HKL) ⟨q2, 0, none⟩
 have kc : ∀ k o, k < V5.heap.size → k ≠ km → W'.cell? ⟨k, o, none⟩ = V5.cell? ⟨k, o, none⟩ := fun k o hk hx => World.cell?_of_block (a := ⟨k, o, none⟩) (w := V5) (hgr.block k hk (by simpa using hx))
 have hx1 : V1.heap.size ≠ km := by omega
 have KEEP : W'.cell? ⟨fb, 1, none⟩ = some (.map (some km)) ∧ W'.cell? ⟨V1.heap.size, 0, none⟩ = some (.int .i64 k1) ∧ W'.cell? ⟨V1.heap.size, 1, none⟩ = some (.int .i64 k2) ∧ W'.cell? ⟨V1.heap.size, 2, none⟩ = some (.string k3) ∧ W'.cell? ⟨V1.heap.size, 3, none⟩ = some (.int .i64 (k4 : Int)) := ⟨(kc _ _ (by omega) (unhide HH).2.2.2.1).trans KEEP.1, (kc _ _ (by omega) hx1).trans KEEP.2.1, (kc _ _ (by omega) hx1).trans KEEP.2.2.1, (kc _ _ (by omega) hx1).trans KEEP.2.2.2.1, (kc _ _ (by omega) hx1).trans KEEP.2.2.2.2⟩
 go_simp
 refine hK.out _ _ ?_ (fun hHeld => ?_)
 ·((try dsimp only); exact KEEP)
 clear hK K hHold
 try simp only [Act.put, List.setIfInBounds_toArray, List.set_cons_zero, List.set_cons_succ]
 refine wpAnyH_done (by kernel_rfl) ?_ _
 refine NoPanic.normal ?_
 clear hHeld KEEP kc hup
 obtain ⟨hf4, hm4, hkb4, hg4, r1', hs4, hq1, hs2⟩ := unhide HV
 have hne := (unhide HH).2.2.2.1
 have hf5 : FmBlk V5 fb (some ⟨q1, 0, none⟩) km := (b5.block fb hfl4).trans hf4
 have hf6 : FmBlk W' fb (some ⟨q1, 0, none⟩) km := (hgr.block fb (by omega) (by simpa using hne)).trans hf5
 have g56 : GrB (fun k => k = fb ∨ k = km) V5.heap.size V5 W' := ⟨hgr.os, hgr.tape, hgr.output, hgr.size, fun k hk hx => hgr.block k hk (by simp; exact fun e => hx (.inr e))⟩
 have g45 : GrB (fun k => k = fb ∨ k = km) V4.heap.size V4 V5 := ⟨b5.os, b5.tape, b5.output, b5.size, fun k hk _ => b5.block k hk⟩
 have rr1 := (unhide HR) all q1 V4 W' r1' (by omega) (g45.trans (g56.mono (by omega))) ⟨_, hf4⟩ hm4.mapB
 have rr2 := (unhide HR) (gk kl) q2 V5 W' r2 (by omega) g56 ⟨_, hf5⟩ (hm4.kept (b5.block km hml4)).mapB
 have hgf : GrB (fun k => k = fb ∨ k = km) W.heap.size W W' := ⟨(hgr.os.trans b5.os).trans hg4.os, (hgr.tape.trans b5.tape).trans hg4.tape, (hgr.output.trans b5.output).trans hg4.output, by have := hgr.size; omega, fun k hk hx => (hgr.block k (by omega) (by simp; exact fun e => hx (.inr e))).trans ((b5.block k (by omega)).trans (hg4.block k hk (fun e => hx (.inl e))))⟩
 have HF := hide (And.intro hf6 (And.intro hpm (And.intro rr1 (And.intro rr2 hgf))))
 have HQ : Hid (W.heap.size ≤ q1 ∧ W.heap.size ≤ q2) := ⟨by omega, by omega⟩
 clear hf4 hm4 hkb4 hg4 r1' hs4 hq1 hs2 hne hf5 hf6 g56 g45 rr1 rr2 hgf hpm hgr b5 r2
 go_wp2_with fail
 all_goals go_end0
 all_goals exact ⟨rfl, q1, q2, HQ.out.1, HQ.out.2, HF.out.1, HF.out.2.1, HF.out.2.2.1, HF.out.2.2.2.1, HF.out.2.2.2.2⟩
/- The law BaseBack, over contracts of base's functions. -/
theorem make_len {n : Nat} {t : Tm (n + 1)} {h b : List Nd} (hw : Wl t) (hok : okT t = true) (hl : (code t).length ≤ 1048576) (hm : makeC t = some (h, b)) : 2 * (h.length + b.length + 1) ≤ 4194304 := by
 have key : ∀ {k : Nat} (u : Tm k) (c : List Nd), makeJ (headBad u.tv) (code u) (some c) = some (h, b) → h.length = (code u).length ∧ b.length = c.length := by
  intro k u c hj
  cases hbad : headBad u.tv with
  | true => rw [hbad] at hj; cases hj
  | false =>
   rw [hbad] at hj
   have hj' : some (clRen (code u) c (code u), clRen (code u) c c) = some (h, b) := hj
   cases hj'
   exact ⟨clRen_len _ _ _, clRen_len _ _ _⟩
 obtain ⟨x, kids⟩ := t
 unfold makeC at hm
 split at hm
 ·split at hm
  ·rename_i u v hkids
   have hkids' : kids = [u, v] := hkids
   subst hkids'
   have hk := ok_kids hok
   have hwk : ∀ z ∈ [u, v], Wl z := hw.2
   cases hcv : bodyC v with
   | none => rw [hcv] at hm; cases hm
   | some c =>
    rw [hcv] at hm
    obtain ⟨_, c2⟩ := body_fine (hwk v (by simp)) (hk.2 v (by simp)) hcv
    rw [code_succ] at hl
    simp only [List.flatMap_cons, List.flatMap_nil, List.append_nil, List.length_cons, List.length_append] at hl
    obtain ⟨e1, e2⟩ := key u c hm
    omega
  ·cases hm
 ·obtain ⟨e1, e2⟩ := key _ _ hm
  simp only [atomC, List.length_cons, List.length_nil] at e2
  omega
def numC (c : List Nd) : Prop := ∀ x ∈ c, -9223372036854775808 ≤ x.2.1 ∧ x.2.1 ≤ 9223372036854775807
theorem clRen_num (h b c : List Nd) (hl : h.length + b.length ≤ 1099511627776) (hc : numC c) : numC (clRen h b c) := by
 intro y hy
 unfold clRen at hy
 obtain ⟨x, hx, hxy⟩ := List.mem_flatMap.1 hy
 unfold subN at hxy
 split at hxy
 ·simp only [renN, List.mem_singleton] at hxy
  subst hxy
  have h1 := clVars_len h b
  have h2 : (clVars h b).idxOf x.2.1 ≤ (clVars h b).length := List.idxOf_le_length
  show -9223372036854775808 ≤ 0 + ((clVars h b).idxOf x.2.1 : Int) ∧ 0 + ((clVars h b).idxOf x.2.1 : Int) ≤ 9223372036854775807
  omega
 ·simp at hxy
  subst hxy
  exact hc _ hx
theorem make_num {n : Nat} {t : Tm (n + 1)} {h b : List Nd} (hw : Wl t) (hok : okT t = true) (hl : (code t).length ≤ 1048576) (hn : numC (code t)) (hm : makeC t = some (h, b)) : numC h := by
 have key : ∀ {k : Nat} (u : Tm k) (c : List Nd), numC (code u) → (code u).length + c.length ≤ 1099511627776 → makeJ (headBad u.tv) (code u) (some c) = some (h, b) → numC h := by
  intro k u c hu hlc hj
  cases hbad : headBad u.tv with
  | true => rw [hbad] at hj; cases hj
  | false =>
   rw [hbad] at hj
   have hj' : some (clRen (code u) c (code u), clRen (code u) c c) = some (h, b) := hj
   cases hj'
   exact clRen_num _ _ _ hlc hu
 obtain ⟨x, kids⟩ := t
 unfold makeC at hm
 split at hm
 ·split at hm
  ·rename_i u v hkids
   have hkids' : kids = [u, v] := hkids
   subst hkids'
   have hk := ok_kids hok
   have hwk : ∀ z ∈ [u, v], Wl z := hw.2
   cases hcv : bodyC v with
   | none => rw [hcv] at hm; cases hm
   | some c =>
    rw [hcv] at hm
    obtain ⟨_, c2⟩ := body_fine (hwk v (by simp)) (hk.2 v (by simp)) hcv
    rw [code_succ] at hl hn
    simp only [List.flatMap_cons, List.flatMap_nil, List.append_nil, List.length_cons, List.length_append] at hl hn
    exact key u c (fun y hy => hn y (by simp [hy])) (by omega) hm
  ·cases hm
 ·exact key _ _ hn (by have : (atomC trueL).length = 1 := rfl; omega) hm
structure BaseOps where
 Needs : Nat → World → Prop
 Is : (Nat → Prop) → World → Value → List (Int × List Nd × List Nd) → Prop
 needs : ∀ {m : Nat} {A B : World}, Needs m A → Below m A B → Needs m B
 is : ∀ {X : Nat → Prop} {A B : World} {v : Value} {l : List (Int × List Nd × List Nd)}, Is X A v l → Below A.heap.size A B → Is X B v l
 make : ∀ {n : Nat} (t : Tm (n + 1)) (m : Nat) (W : World), Needs m W → m ≤ W.heap.size → IsT W.heap.size W t → 2 * (code t).length ≤ 4194304 → n ≤ 274877906944 →
  Calls Tryz.prog 7 #[t.tv.val] W fun e W' => CAns (2 * n + 8) W.heap.size W.heap.size (makeR t).1 (makeR t).2.1 (makeR t).2.2 e W' ∧ Below W.heap.size W W'
 plain : ∀ {n : Nat} (th tb : Tm (n + 1)) (m : Nat) (W : World), Needs m W → m ≤ W.heap.size → IsT W.heap.size W th → IsT W.heap.size W tb → 2 * ((code th).length + (code tb).length + 1) ≤ 4194304 → n ≤ 274877906944 →
  Calls Tryz.prog 9 #[clV th.tv tb.tv] W fun e W' => TAns (2 * n + 8) W.heap.size W.heap.size (plainR th tb).1 (plainR th tb).2 e W' ∧ Below W.heap.size W W'
 new : ∀ (m : Nat) (W : World), Needs m W → m ≤ W.heap.size → Calls Tryz.prog 5 #[] W fun e W' => ∃ v X, e = .returned v ∧ Is X W' v [] ∧ (∀ b, X b → W.heap.size ≤ b ∧ b < W'.heap.size) ∧ Below W.heap.size W W'
 add : ∀ {n : Nat} (th tb : Tm (n + 1)) (first : Bool) (m : Nat) (X : Nat → Prop) (v : Value) (W : World), Needs m W → m ≤ W.heap.size → Is X W v [] → IsT W.heap.size W th → IsT W.heap.size W tb → 2 * ((code th).length + (code tb).length + 1) ≤ 4194304 → (plainR th tb).1 = 0 → numC (code th) → n ≤ 274877906944 →
  Calls Tryz.prog 8 #[v, clV th.tv tb.tv, .bool first] W fun e W' => ∃ X' : Nat → Prop, e = .returned (.tuple #[.int .i64 1, .int .i64 0]) ∧ Is X' W' v [(1, code th, code tb)] ∧ (∀ b, X' b → X b ∨ W.heap.size ≤ b) ∧ GrB X W.heap.size W W'
 get : ∀ (h b : List Nd) (m : Nat) (X : Nat → Prop) (v : Value) (W : World), Needs m W → m ≤ W.heap.size → Is X W v [(1, h, b)] →
  Calls Tryz.prog 17 #[v, .int .i64 1] W fun e W' => CAns 1099511627776 W.heap.size W.heap.size 0 h b e W' ∧ Below W.heap.size W W'
 look : ∀ (m : Nat) (X : Nat → Prop) (v : Value) (W : World), Needs m W → m ≤ W.heap.size → Is X W v [(1, atomC [112], atomC trueL)] →
  Calls Tryz.prog 21 #[v, (atomV ⟨#[112]⟩).val] W fun e W' => ∃ a cap, e = .returned (.tuple #[.slice a 1 cap, .int .i64 0]) ∧ Below W.heap.size W W'
theorem makeR_ok {n : Nat} {t : Tm (n + 1)} (h : (makeR t).1 = 0) : okT t = true ∧ makeC t = some (makeR t).2 := by
 unfold makeR at h ⊢
 by_cases ok : okT t = true
 ·rw [if_pos ok] at h ⊢
  refine ⟨ok, ?_⟩
  cases hm : makeC t with
  | none => rw [hm] at h; exact absurd h (by decide)
  | some c => rfl
 ·rw [if_neg ok] at h
  exact absurd h (by decide)
theorem makeR_of {n : Nat} {t : Tm (n + 1)} {h b : List Nd} (ok : okT t = true) (hm : makeC t = some (h, b)) : makeR t = (0, h, b) := by
 unfold makeR
 rw [if_pos ok, hm]
 rfl
theorem holds_two_terms {D : Nat} {S S' : Nat → Prop} {W : World} {x y : TV} {h b : List Nd} (p : HoldsS D S W x.val h) (q : HoldsS D S' W y.val b) (hD : D + 1 ≤ 2199023255552 := by first | omega | exact upto_one _ (by omega)) :
  ∃ th tb : Tm (D + 1), x = th.tv ∧ y = tb.tv ∧ IsT W.heap.size W th ∧ IsT W.heap.size W tb ∧ code th = h ∧ code tb = b := by
 obtain ⟨th, a1, a2, -, a4⟩ := p (D + 1) (by omega) hD
 obtain ⟨tb, b1, b2, -, b4⟩ := q (D + 1) (by omega) hD
 exact ⟨th, tb, tv_inj a1, tv_inj b1, a2, b2, a4, b4⟩
end Go.Proofs.YtlbobmebbllifaaGreat
