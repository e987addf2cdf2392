import Derived.Test.YtlbobmebbllifaaGreatBcH
/- (*base.family).letThrough of no key, (*base.Base).View, (*base.View).step. (Written by wip/lookgen.py.) -/
namespace Go.Proofs.YtlbobmebbllifaaGreat
set_option maxHeartbeats 4000000
set_option maxRecDepth 100000
open Go.RowKit Go.Shelf Go.Maps
theorem letThrough_all (fb km : Nat) (all : Option Addr) (W : World) (hf : FmBlk W fb all km) :
  Calls Tryz.prog 51 #[.pointer (some ⟨fb, 0, none⟩), keyV 0 0 ⟨#[]⟩ 0] W fun e W' => e = .returned (.agg #[.pointer all, .pointer none]) ∧ Below W.heap.size W W' := by
 have hb2 : Below W.heap.size W ((W.alloc (.cells #[.int .i64 0, .int .i64 0, .string ⟨#[]⟩, .int .i64 0] 89)).alloc (.cells #[.pointer none, .pointer none] 111)) := ((Below.refl _ W).alloc (Nat.le_refl _) _).alloc (by simp) _
 obtain ⟨f0, -⟩ := (show FmBlk ((W.alloc (.cells #[.int .i64 0, .int .i64 0, .string ⟨#[]⟩, .int .i64 0] 89)).alloc (.cells #[.pointer none, .pointer none] 111)) fb all km from (hb2.block fb hf.lt).trans hf).cs
 clear hf hb2
 simp only [keyV]
 go_enter Tryz.func51, Tryz.ntmps51
 go_wp2_with fail
 exact bodyPost_ret (v := .agg #[.pointer all, .pointer none]) (by simp [results, Tryz.results51, go_sem]) rfl ⟨rfl, ((Below.refl _ W).alloc (Nat.le_refl _) _).alloc (by simp) _⟩
def VwBlk (W : World) (vb : Nat) (p q : Option Addr) (last : Int) : Prop := W.heap[vb]? = some (.cells #[.pointer p, .pointer q, .int .i64 last] 113 (0, 0))
theorem VwBlk.lt {W : World} {vb : Nat} {p q : Option Addr} {last : Int} (h : VwBlk W vb p q last) : vb < W.heap.size := (Array.getElem?_eq_some_iff.1 h).1
theorem VwBlk.cs {W : World} {vb : Nat} {p q : Option Addr} {last : Int} (h : VwBlk W vb p q last) : (W.cell? ⟨vb, 0, none⟩ = some (.pointer p) ∧ W.cell? ⟨vb, 1, none⟩ = some (.pointer q) ∧ W.cell? ⟨vb, 2, none⟩ = some (.int .i64 last)) ∧ W.frozen? ⟨vb, 0, none⟩ = false ∧ W.frozen? ⟨vb, 1, none⟩ = false ∧ W.frozen? ⟨vb, 2, none⟩ = false := by
 have h' : W.heap[vb]? = _ := h
 refine ⟨⟨?_, ?_, ?_⟩, ?_, ?_, ?_⟩ <;> simp [World.cell?, World.frozen?, h']
theorem VwBlk.set {W : World} {vb : Nat} {p q : Option Addr} {last : Int} (h : VwBlk W vb p q last) : (∀ p', VwBlk (W.setCell ⟨vb, 0, none⟩ (.pointer p')) vb p' q last) ∧ (∀ q', VwBlk (W.setCell ⟨vb, 1, none⟩ (.pointer q')) vb p q' last) ∧ ∀ l', VwBlk (W.setCell ⟨vb, 2, none⟩ (.int .i64 l')) vb p q l' := by
 have h' : W.heap[vb]? = _ := h
 obtain ⟨hlt, hk⟩ := Array.getElem?_eq_some_iff.1 h'
 refine ⟨fun p' => ?_, fun q' => ?_, fun l' => ?_⟩
 all_goals
  show (W.heap.modify vb _)[vb]? = _
  rw [Array.getElem?_eq_getElem (by rw [Array.size_modify]; exact hlt), Array.getElem_modify_self, hk]
  rfl
theorem rules_known (b me mf fb : Nat) (laid : Int) (cf : Nat) (gf : Lit → Option Addr) (p q : Option Addr) (s : ByteArray) (n : Nat) (k N : Int) (ks : ByteArray) (kn : Nat) (W : World) (hb : BsBlk W b laid me mf) (hmf : PM 80 W mf cf gf) (hs : s.size ≤ maxLen) (hn : n ≤ 9223372036854775807)
  (hltq : ∀ V, Below W.heap.size W V → Calls Tryz.prog 51 #[.pointer (some ⟨fb, 0, none⟩), keyV k N ks kn] V fun e W' => e = .returned (.agg #[.pointer p, .pointer q]) ∧ Below V.heap.size V W') (hg : gf (predL s n) = some ⟨fb, 0, none⟩) :
  Calls Tryz.prog 36 #[.pointer (some ⟨b, 0, none⟩), .string s, .int .i64 (n : Int), keyV k N ks kn] W fun e W' => ∃ vb r, e = .returned (.tuple #[.pointer (some ⟨vb, 0, none⟩), .bool r]) ∧ W.heap.size ≤ vb ∧ VwBlk W' vb p q (-9223372036854775808) ∧ Below W.heap.size W W' := by
 obtain ⟨W2, hW2, hb2, hv2, hs2, hk2⟩ : ∃ W2, (W.alloc (.cells #[.int .i64 k, .int .i64 N, .string ks, .int .i64 (kn : Int)] 89)).alloc (.cells #[.pointer none, .pointer none, .int .i64 (-9223372036854775808)] 113) = W2 ∧ Below W.heap.size W W2 ∧ VwBlk W2 (W.heap.size + 1) none none (-9223372036854775808) ∧ W2.heap.size = W.heap.size + 2 ∧ W2.heap[W.heap.size]? = some (.cells #[.int .i64 k, .int .i64 N, .string ks, .int .i64 (kn : Int)] 89 (0, 0)) := by
  refine ⟨_, rfl, ((Below.refl _ W).alloc (Nat.le_refl _) _).alloc (by simp) _, ?_, by simp, (Below.heap_alloc _ _ _ (by simp)).trans (World.alloc_heap_new W _)⟩
  have h := World.alloc_heap_new (W.alloc (.cells #[.int .i64 k, .int .i64 N, .string ks, .int .i64 (kn : Int)] 89)) (.cells #[.pointer none, .pointer none, .int .i64 (-9223372036854775808)] 113)
  rw [World.size_alloc] at h
  exact h
 have hlook : (Instr.lookup 55 (.map (some mf)) (.agg #[.string s, .int .i64 (n : Int)]) true).run Tryz.prog W2 = .ok (.tuple #[.pointer (some ⟨fb, 0, none⟩), .bool true]) W2 := by
  have h := (hmf.kept (hb2.block mf hmf.lt)).look Tryz.keyedPred Tryz.underlying55 (Tryz.zeroPtr64 _) (pred_key s n hs hn)
  rw [hg] at h
  simp only [Option.isSome_some] at h
  exact h
 have bc : BsBlk W2 b laid me mf := (hb2.block b hb.lt).trans hb
 obtain ⟨_, b1, b2⟩ := bc.cs
 have hlt := hltq W2 hb2
 clear hltq
 simp only [keyV] at hlt
 have k0 : W2.cell? ⟨W.heap.size, 0, none⟩ = some (.int .i64 k) := by simp [World.cell?, hk2]
 have k1 : W2.cell? ⟨W.heap.size, 1, none⟩ = some (.int .i64 N) := by simp [World.cell?, hk2]
 have k2 : W2.cell? ⟨W.heap.size, 2, none⟩ = some (.string ks) := by simp [World.cell?, hk2]
 have k3 : W2.cell? ⟨W.heap.size, 3, none⟩ = some (.int .i64 (kn : Int)) := by simp [World.cell?, hk2]
 have HV := hide hv2
 have HB := hide hb2
 clear hb hmf hs hn hg bc hv2 hb2 hk2
 simp only [keyV]
 go_enter Tryz.func36, Tryz.ntmps36
 go_wp2_with fail
 try rw [hW2]
 clear hW2
 refine hlt.mono ?_
 clear hlt
 rintro e V6 ⟨rfl, g6⟩
 have s6 := g6.size
 have hv6 : VwBlk V6 (W.heap.size + 1) none none (-9223372036854775808) := (g6.block _ (by omega)).trans (unhide HV)
 obtain ⟨⟨v0, v1, v2⟩, f0, f1, f2⟩ := hv6.cs
 have hv7 := ((hv6.set.1 p).set).2.1 q
 have HF : Hid (W.heap.size ≤ W.heap.size + 1 ∧ VwBlk ((V6.setCell ⟨W.heap.size + 1, 0, none⟩ (.pointer p)).setCell ⟨W.heap.size + 1, 1, none⟩ (.pointer q)) (W.heap.size + 1) p q (-9223372036854775808) ∧ Below W.heap.size W ((V6.setCell ⟨W.heap.size + 1, 0, none⟩ (.pointer p)).setCell ⟨W.heap.size + 1, 1, none⟩ (.pointer q))) := ⟨by omega, hv7, (((unhide HB).trans (g6.mono (by omega))).setCell (p := ⟨W.heap.size + 1, 0, none⟩) (by simp) _).setCell (p := ⟨W.heap.size + 1, 1, none⟩) (by simp) _⟩
 clear hv6 hv7 g6 HV HB
 go_wp2_with fail
 exact bodyPost_ret (v := .tuple #[.pointer (some ⟨W.heap.size + 1, 0, none⟩), .bool true]) (by simp [results, Tryz.results36, go_sem]) rfl ⟨_, _, rfl, HF.out.1, HF.out.2.1, HF.out.2.2⟩
theorem rules_unknown (b me mf : Nat) (laid : Int) (cf : Nat) (gf : Lit → Option Addr) (s : ByteArray) (n : Nat) (k N : Int) (ks : ByteArray) (kn : Nat) (W : World) (hb : BsBlk W b laid me mf) (hmf : PM 80 W mf cf gf) (hs : s.size ≤ maxLen) (hn : n ≤ 9223372036854775807) (hg : gf (predL s n) = none) :
  Calls Tryz.prog 36 #[.pointer (some ⟨b, 0, none⟩), .string s, .int .i64 (n : Int), keyV k N ks kn] W fun e W' => ∃ vb r, e = .returned (.tuple #[.pointer (some ⟨vb, 0, none⟩), .bool r]) ∧ W.heap.size ≤ vb ∧ VwBlk W' vb none none (-9223372036854775808) ∧ Below W.heap.size W W' := by
 obtain ⟨W2, hW2, hb2, hv2, hs2, hk2⟩ : ∃ W2, (W.alloc (.cells #[.int .i64 k, .int .i64 N, .string ks, .int .i64 (kn : Int)] 89)).alloc (.cells #[.pointer none, .pointer none, .int .i64 (-9223372036854775808)] 113) = W2 ∧ Below W.heap.size W W2 ∧ VwBlk W2 (W.heap.size + 1) none none (-9223372036854775808) ∧ W2.heap.size = W.heap.size + 2 ∧ W2.heap[W.heap.size]? = some (.cells #[.int .i64 k, .int .i64 N, .string ks, .int .i64 (kn : Int)] 89 (0, 0)) := by
  refine ⟨_, rfl, ((Below.refl _ W).alloc (Nat.le_refl _) _).alloc (by simp) _, ?_, by simp, (Below.heap_alloc _ _ _ (by simp)).trans (World.alloc_heap_new W _)⟩
  have h := World.alloc_heap_new (W.alloc (.cells #[.int .i64 k, .int .i64 N, .string ks, .int .i64 (kn : Int)] 89)) (.cells #[.pointer none, .pointer none, .int .i64 (-9223372036854775808)] 113)
  rw [World.size_alloc] at h
  exact h
 have hlook : (Instr.lookup 55 (.map (some mf)) (.agg #[.string s, .int .i64 (n : Int)]) true).run Tryz.prog W2 = .ok (.tuple #[.pointer none, .bool false]) W2 := by
  have h := (hmf.kept (hb2.block mf hmf.lt)).look Tryz.keyedPred Tryz.underlying55 (Tryz.zeroPtr64 _) (pred_key s n hs hn)
  rw [hg] at h
  simp only [Option.isSome_none] at h
  exact h
 have bc : BsBlk W2 b laid me mf := (hb2.block b hb.lt).trans hb
 obtain ⟨_, b1, b2⟩ := bc.cs
 have k0 : W2.cell? ⟨W.heap.size, 0, none⟩ = some (.int .i64 k) := by simp [World.cell?, hk2]
 have k1 : W2.cell? ⟨W.heap.size, 1, none⟩ = some (.int .i64 N) := by simp [World.cell?, hk2]
 have k2 : W2.cell? ⟨W.heap.size, 2, none⟩ = some (.string ks) := by simp [World.cell?, hk2]
 have k3 : W2.cell? ⟨W.heap.size, 3, none⟩ = some (.int .i64 (kn : Int)) := by simp [World.cell?, hk2]
 have HV := hide hv2
 have HB := hide hb2
 clear hb hmf hs hn hg bc hv2 hb2 hk2
 simp only [keyV]
 go_enter Tryz.func36, Tryz.ntmps36
 go_wp2_with fail
 try rw [hW2]
 exact bodyPost_ret (v := .tuple #[.pointer (some ⟨W.heap.size + 1, 0, none⟩), .bool false]) (by simp [results, Tryz.results36, go_sem]) rfl ⟨_, _, rfl, by omega, unhide HV, unhide HB⟩
theorem view_by (b : Nat) (p q : Option Addr) {n : Nat} (tg : Tm (n + 1)) (W : World) (hT : IsT W.heap.size W tg) (hok : okT tg = true) (hcall : (decide (tg.tv.k = 3) || decide (tg.tv.k = 4)) = true)
  (hru : ∀ V, Below W.heap.size W V → Calls Tryz.prog 36 #[.pointer (some ⟨b, 0, none⟩), .string tg.tv.s, .int .i64 (tg.tv.len : Int), keyOfV tg] V fun e W' => ∃ vb r, e = .returned (.tuple #[.pointer (some ⟨vb, 0, none⟩), .bool r]) ∧ V.heap.size ≤ vb ∧ VwBlk W' vb p q (-9223372036854775808) ∧ Below V.heap.size V W') :
  Calls Tryz.prog 13 #[.pointer (some ⟨b, 0, none⟩), tg.tv.val] W fun e W' => ∃ vb, e = .returned (.tuple #[.pointer (some ⟨vb, 0, none⟩), .int .i64 0]) ∧ W.heap.size ≤ vb ∧ VwBlk W' vb p q (-9223372036854775808) ∧ Below W.heap.size W W' := by
 have hbx := BoxT.new W tg.tv
 have hb1 : Below W.heap.size W (W.alloc (.cells #[.int .i64 tg.tv.k, .int .i64 tg.tv.N, .string tg.tv.s, .slice tg.tv.a tg.tv.len tg.tv.cap] 24)) := (Below.refl _ W).alloc (Nat.le_refl _) _
 have hs1 : W.heap.size < (W.alloc (.cells #[.int .i64 tg.tv.k, .int .i64 tg.tv.N, .string tg.tv.s, .slice tg.tv.a tg.tv.len tg.tv.cap] 24)).heap.size := by simp
 have hck := check_any tg _ ((hT.below hb1).mono hb1.size)
 rw [chk_yes hok] at hck
 have hca := isCallable_any tg.tv
 rw [hcall] at hca
 have HKO : Hid (∀ V, Below W.heap.size W V → Calls Tryz.prog 37 #[tg.tv.val] V fun e W' => e = .returned (keyOfV tg) ∧ Below V.heap.size V W') := fun V hV => keyOf_any tg V ((hT.below hV).mono hV.size)
 have HRU := hide hru
 simp only [TV.val] at hck hca HKO ⊢
 unfold keyOfV keyV at HKO HRU
 have HX := hide (And.intro hbx (And.intro hb1 hs1))
 clear hT hok hcall hbx hb1 hru hs1
 go_enter Tryz.func13, Tryz.ntmps13
 go_wp2_with fail
 refine hck.mono ?_
 clear hck
 rintro e V1 ⟨rfl, g1⟩
 obtain ⟨hbx, hb1, hs1⟩ := unhide HX
 have s1 := g1.size
 have bx1 : BoxT V1 W.heap.size tg.tv := hbx.below g1 (by omega)
 have gW1 : Below W.heap.size W V1 := hb1.trans (g1.mono (by omega))
 have c0 := bx1.c0
 have c1 := bx1.c1
 have c2 := bx1.c2
 have c3 := bx1.c3
 have H1 := hide (And.intro bx1 gW1)
 clear hbx hb1 bx1 gW1 g1 HX
 go_wp2_with fail
 refine (hca _).mono ?_
 clear hca c0 c1 c2 c3
 rintro e V2 ⟨rfl, g2⟩
 obtain ⟨bx1, gW1⟩ := unhide H1
 have s2 := g2.size
 have bx2 : BoxT V2 W.heap.size tg.tv := bx1.below g2 (by omega)
 have gW2 : Below W.heap.size W V2 := gW1.trans (g2.mono (by omega))
 have hko := HKO.out V2.drew gW2.drew
 have KEEP : V2.cell? ⟨W.heap.size, 0, none⟩ = some (.int .i64 tg.tv.k) ∧ V2.cell? ⟨W.heap.size, 1, none⟩ = some (.int .i64 tg.tv.N) ∧ V2.cell? ⟨W.heap.size, 2, none⟩ = some (.string tg.tv.s) ∧ V2.cell? ⟨W.heap.size, 3, none⟩ = some (.slice tg.tv.a tg.tv.len tg.tv.cap) := ⟨bx2.c0, bx2.c1, bx2.c2, bx2.c3⟩
 have B2 := hide bx2
 have G2 := hide gW2
 clear bx1 gW1 bx2 gW2 g2 H1 HKO
 go_wp2_with fail
 refine wp_region_noPanic ?_
 refine wp_region_held_drew (S := (fun w' => w'.cell? ⟨W.heap.size, 0, none⟩ = some (.int .i64 tg.tv.k) ∧ w'.cell? ⟨W.heap.size, 1, none⟩ = some (.int .i64 tg.tv.N) ∧ w'.cell? ⟨W.heap.size, 2, none⟩ = some (.string tg.tv.s) ∧ w'.cell? ⟨W.heap.size, 3, none⟩ = some (.slice tg.tv.a tg.tv.len tg.tv.cap))) (by kernel_rfl) ?_ (fun hHeld => ?_)
 ·exact KEEP
 refine wpAnyH_take (i := 0) (oi := { dst := some 18, op := Op.move (Operand.tmp 0), type := 26, pos := "look.go:47", after := #[], guard := none }) (v := ?_) rfl (by kernel_rfl) (by kernel_rfl) (by kernel_rfl) (fun _ _ _ h => h) (Or.inl ⟨by rfl, ?_⟩) hHeld ?_
 rotate_left
 ·(intro w' hSw; (try dsimp only at hSw); go_simp; try with_reducible rfl)
 try simp only [Act.put, List.setIfInBounds_toArray, List.set_cons_zero, List.set_cons_succ]
 refine wpAnyH_take (i := 1) (oi := { dst := some 19, op := Op.fieldAddr 24 (Operand.tmp 3) 2, type := 0, pos := "look.go:47", after := #[], guard := none }) (v := ?_) rfl (by kernel_rfl) (by kernel_rfl) (by kernel_rfl) (fun _ _ _ h => h) (Or.inl ⟨by rfl, ?_⟩) hHeld ?_
 rotate_left
 ·(intro w' hSw; (try dsimp only at hSw); go_simp; try with_reducible rfl)
 try simp only [Act.put, List.setIfInBounds_toArray, List.set_cons_zero, List.set_cons_succ]
 refine wpAnyH_take (i := 2) (oi := { dst := some 20, op := Op.load 9 (Operand.tmp 19), type := 9, pos := "look.go:47", after := #[{ on := 1, ground := Ground.data }], guard := none }) (v := ?_) rfl (by kernel_rfl) (by kernel_rfl) (by kernel_rfl) (fun _ _ _ h => h) (Or.inl ⟨by rfl, ?_⟩) hHeld ?_
 rotate_left
 ·(intro w' hSw; (try dsimp only at hSw); go_simp; try with_reducible rfl)
 try simp only [Act.put, List.setIfInBounds_toArray, List.set_cons_zero, List.set_cons_succ]
 refine wpAnyH_take (i := 3) (oi := { dst := some 21, op := Op.fieldAddr 24 (Operand.tmp 3) 3, type := 0, pos := "look.go:47", after := #[], guard := none }) (v := ?_) rfl (by kernel_rfl) (by kernel_rfl) (by kernel_rfl) (fun _ _ _ h => h) (Or.inl ⟨by rfl, ?_⟩) hHeld ?_
 rotate_left
 ·(intro w' hSw; (try dsimp only at hSw); go_simp; try with_reducible rfl)
 try simp only [Act.put, List.setIfInBounds_toArray, List.set_cons_zero, List.set_cons_succ]
 refine wpAnyH_take (i := 4) (oi := { dst := some 22, op := Op.load 22 (Operand.tmp 21), type := 22, pos := "look.go:47", after := #[{ on := 3, ground := Ground.data }], guard := none }) (v := ?_) rfl (by kernel_rfl) (by kernel_rfl) (by kernel_rfl) (fun _ _ _ h => h) (Or.inl ⟨by rfl, ?_⟩) hHeld ?_
 rotate_left
 ·(intro w' hSw; (try dsimp only at hSw); go_simp; try with_reducible rfl)
 try simp only [Act.put, List.setIfInBounds_toArray, List.set_cons_zero, List.set_cons_succ]
 refine wpAnyH_take (i := 5) (oi := { dst := some 23, op := Op.call { callee := Callee.builtin Builtin.len, args := #[Operand.tmp 22], argTypes := #[22] }, type := 3, pos := "look.go:47", after := #[{ on := 4, ground := Ground.data }], guard := none }) (v := ?_) rfl (by kernel_rfl) (by kernel_rfl) (by kernel_rfl) (fun _ _ _ h => h) (Or.inl ⟨by rfl, ?_⟩) hHeld ?_
 rotate_left
 ·(intro w' hSw; (try dsimp only at hSw); go_simp; try with_reducible rfl)
 try simp only [Act.put, List.setIfInBounds_toArray, List.set_cons_zero, List.set_cons_succ]
 refine wpAnyH_take (i := 6) (oi := { dst := some 24, op := Op.load 24 (Operand.tmp 3), type := 24, pos := "look.go:47", after := #[], guard := none }) (v := ?_) rfl (by kernel_rfl) (by kernel_rfl) (by kernel_rfl) (fun _ _ _ h => h) (Or.inl ⟨by rfl, ?_⟩) hHeld ?_
 rotate_left
 ·(intro w' hSw; (try dsimp only at hSw); go_simp; try with_reducible rfl)
 try simp only [Act.put, List.setIfInBounds_toArray, List.set_cons_zero, List.set_cons_succ]
 refine wpAnyH_ready (rs := [7]) (by kernel_rfl) (by simp) ?_
 refine AllReadyH.cons (o := { dst := some 25, op := Op.call { callee := Callee.value (Operand.func 37), args := #[Operand.tmp 24], argTypes := #[24] }, type := 89, pos := "look.go:47", after := #[{ on := 6, ground := Ground.data }], guard := none }) rfl (fun K hK => ?_) AllReadyH.nil
 have hHold := hHeld
 clear hHeld
 go_simp
 refine hko.mono ?_
 clear hko
 rintro e V3 ⟨rfl, g3⟩
 replace g3 : Below V2.heap.size V2 V3 := (Below.refl _ V2).drew.trans (show Below V2.heap.size V2.drew V3 from g3)
 have bx3 : BoxT V3 W.heap.size tg.tv := (unhide B2).below g3 (by show W.heap.size < V2.heap.size; omega)
 have gW3 : Below W.heap.size W V3 := (unhide G2).trans (g3.mono (by omega))
 have s3 : V2.heap.size ≤ V3.heap.size := g3.size
 have KEEP : V3.cell? ⟨W.heap.size, 0, none⟩ = some (.int .i64 tg.tv.k) ∧ V3.cell? ⟨W.heap.size, 1, none⟩ = some (.int .i64 tg.tv.N) ∧ V3.cell? ⟨W.heap.size, 2, none⟩ = some (.string tg.tv.s) ∧ V3.cell? ⟨W.heap.size, 3, none⟩ = some (.slice tg.tv.a tg.tv.len tg.tv.cap) := ⟨bx3.c0, bx3.c1, bx3.c2, bx3.c3⟩
 have hr := HRU.out V3 gW3
 have H3 := hide (And.intro bx3 (And.intro gW3 g3))
 clear bx3 gW3 g3 HRU
 go_wp2_with fail
 refine hK.out _ _ ?_ (fun hHeld => ?_)
 ·((try dsimp only); exact KEEP)
 clear hK K hHold
 try simp only [Act.put, List.setIfInBounds_toArray, List.set_cons_zero, List.set_cons_succ]
 refine wpAnyH_ready (rs := [8]) (by kernel_rfl) (by simp) ?_
 refine AllReadyH.cons (o := { dst := some 26, op := Op.call { callee := Callee.value (Operand.func 36), args := #[Operand.tmp 18, Operand.tmp 20, Operand.tmp 23, Operand.tmp 25], argTypes := #[26, 9, 3, 89] }, type := 86, pos := "look.go:47", after := #[{ on := 0, ground := Ground.data }, { on := 2, ground := Ground.data }, { on := 5, ground := Ground.data }, { on := 7, ground := Ground.data }, { on := 7, ground := Ground.chain }], guard := none }) rfl (fun K hK => ?_) AllReadyH.nil
 have hHold := hHeld
 clear hHeld
 go_simp
 refine hr.mono ?_
 clear hr
 rintro e V4 ⟨vb, r, rfl, hvb, hvw, g4⟩
 obtain ⟨bx3, gW3, g3⟩ := unhide H3
 have bx4 : BoxT V4 W.heap.size tg.tv := bx3.below g4 (by omega)
 have KEEP : V4.cell? ⟨W.heap.size, 0, none⟩ = some (.int .i64 tg.tv.k) ∧ V4.cell? ⟨W.heap.size, 1, none⟩ = some (.int .i64 tg.tv.N) ∧ V4.cell? ⟨W.heap.size, 2, none⟩ = some (.string tg.tv.s) ∧ V4.cell? ⟨W.heap.size, 3, none⟩ = some (.slice tg.tv.a tg.tv.len tg.tv.cap) := ⟨bx4.c0, bx4.c1, bx4.c2, bx4.c3⟩
 have HF : Hid (W.heap.size ≤ vb ∧ VwBlk V4 vb p q (-9223372036854775808) ∧ Below W.heap.size W V4) := ⟨by omega, hvw, gW3.trans (g4.mono (by omega))⟩
 clear bx3 gW3 g3 bx4 hvb hvw g4 H3
 go_wp2_with fail
 refine hK.out _ _ ?_ (fun hHeld => ?_)
 ·((try dsimp only); exact KEEP)
 clear hK K hHold
 try simp only [Act.put, List.setIfInBounds_toArray, List.set_cons_zero, List.set_cons_succ]
 refine wpAnyH_take (i := 9) (oi := { dst := some 17, op := Op.move (Operand.tmp 26), type := 86, pos := "look.go:47", after := #[{ on := 8, ground := Ground.data }], guard := none }) (v := ?_) rfl (by kernel_rfl) (by kernel_rfl) (by kernel_rfl) (fun _ _ _ h => h) (Or.inl ⟨by rfl, ?_⟩) hHeld ?_
 rotate_left
 ·(intro w' hSw; (try dsimp only at hSw); go_simp; try with_reducible rfl)
 try simp only [Act.put, List.setIfInBounds_toArray, List.set_cons_zero, List.set_cons_succ]
 refine wpAnyH_take (i := 10) (oi := { dst := some 27, op := Op.extract (Operand.tmp 17) 0, type := 40, pos := "look.go:47", after := #[{ on := 9, ground := Ground.data }], guard := none }) (v := ?_) rfl (by kernel_rfl) (by kernel_rfl) (by kernel_rfl) (fun _ _ _ h => h) (Or.inl ⟨by rfl, ?_⟩) hHeld ?_
 rotate_left
 ·(intro w' hSw; (try dsimp only at hSw); go_simp; try with_reducible rfl)
 try simp only [Act.put, List.setIfInBounds_toArray, List.set_cons_zero, List.set_cons_succ]
 refine wpAnyH_take (i := 11) (oi := { dst := some 28, op := Op.extract (Operand.tmp 17) 1, type := 4, pos := "look.go:47", after := #[{ on := 9, ground := Ground.data }, { on := 12, ground := Ground.gcOnly Departure.lateStores }], guard := none }) (v := ?_) rfl (by kernel_rfl) (by kernel_rfl) (by kernel_rfl) (fun _ _ _ h => h) (Or.inl ⟨by rfl, ?_⟩) hHeld ?_
 rotate_left
 ·(intro w' hSw; (try dsimp only at hSw); go_simp; try with_reducible rfl)
 try simp only [Act.put, List.setIfInBounds_toArray, List.set_cons_zero, List.set_cons_succ]
 refine wpAnyH_take (i := 12) (oi := { dst := some 7, op := Op.assign (Operand.tmp 27), type := 40, pos := "look.go:47", after := #[{ on := 10, ground := Ground.data }, { on := 8, ground := Ground.chain }, { on := 0, ground := Ground.phase }, { on := 1, ground := Ground.phase }, { on := 2, ground := Ground.phase }, { on := 3, ground := Ground.phase }, { on := 4, ground := Ground.phase }, { on := 5, ground := Ground.phase }, { on := 6, ground := Ground.phase }, { on := 7, ground := Ground.phase }, { on := 8, ground := Ground.phase }, { on := 9, ground := Ground.phase }, { on := 10, ground := Ground.phase }, { on := 11, ground := Ground.textOnly Departure.lateStores }], guard := none }) (v := ?_) rfl (by kernel_rfl) (by kernel_rfl) (by kernel_rfl) (fun _ _ _ h => h) (Or.inl ⟨by rfl, ?_⟩) hHeld ?_
 rotate_left
 ·(intro w' hSw; (try dsimp only at hSw); go_simp; try with_reducible rfl)
 try simp only [Act.put, List.setIfInBounds_toArray, List.set_cons_zero, List.set_cons_succ]
 refine wpAnyH_take (i := 13) (oi := { dst := some 8, op := Op.assign (Operand.tmp 28), type := 4, pos := "look.go:47", after := #[{ on := 11, ground := Ground.data }, { on := 12, ground := Ground.chain }, { on := 0, ground := Ground.phase }, { on := 1, ground := Ground.phase }, { on := 2, ground := Ground.phase }, { on := 3, ground := Ground.phase }, { on := 4, ground := Ground.phase }, { on := 5, ground := Ground.phase }, { on := 6, ground := Ground.phase }, { on := 7, ground := Ground.phase }, { on := 8, ground := Ground.phase }, { on := 9, ground := Ground.phase }, { on := 10, ground := Ground.phase }, { on := 11, ground := Ground.phase }, { on := 12, ground := Ground.phase }], guard := none }) (v := ?_) rfl (by kernel_rfl) (by kernel_rfl) (by kernel_rfl) (fun _ _ _ h => h) (Or.inl ⟨by rfl, ?_⟩) hHeld ?_
 rotate_left
 ·(intro w' hSw; (try dsimp only at hSw); go_simp; try with_reducible rfl)
 try simp only [Act.put, List.setIfInBounds_toArray, List.set_cons_zero, List.set_cons_succ]
 refine wpAnyH_done (by kernel_rfl) ?_ _
 refine NoPanic.normal ?_
 clear hHeld
 go_wp2_with fail
 exact bodyPost_ret (v := .tuple #[.pointer (some ⟨vb, 0, none⟩), .int .i64 0]) (by simp [results, Tryz.results13, go_sem]) rfl ⟨_, rfl, HF.out.1, HF.out.2.1, HF.out.2.2⟩
theorem view_all (b me mf fb km : Nat) (laid : Int) (cf : Nat) (gf : Lit → Option Addr) (all : Option Addr) {n : Nat} (tg : Tm (n + 1)) (W : World) (hb : BsBlk W b laid me mf) (hmf : PM 80 W mf cf gf) (hf : FmBlk W fb all km) (hT : IsT W.heap.size W tg) (hok : okT tg = true) (hcall : (decide (tg.tv.k = 3) || decide (tg.tv.k = 4)) = true) (hkey : keyOfV tg = keyV 0 0 ⟨#[]⟩ 0) (hg : gf (predL tg.tv.s tg.tv.len) = some ⟨fb, 0, none⟩) :
  Calls Tryz.prog 13 #[.pointer (some ⟨b, 0, none⟩), tg.tv.val] W fun e W' => ∃ vb, e = .returned (.tuple #[.pointer (some ⟨vb, 0, none⟩), .int .i64 0]) ∧ W.heap.size ≤ vb ∧ VwBlk W' vb all none (-9223372036854775808) ∧ Below W.heap.size W W' :=
 view_by b all none tg W hT hok hcall fun V hV => by
  rw [hkey]
  exact rules_known b me mf fb laid cf gf all none tg.tv.s tg.tv.len 0 0 ⟨#[]⟩ 0 V ((hV.block b hb.lt).trans hb) (hmf.kept (hV.block mf hmf.lt)) hT.2.2.1 hT.2.1.1 (fun V' hV' => letThrough_all fb km all V' ((hV'.block fb (Nat.lt_of_lt_of_le hf.lt hV.size)).trans ((hV.block fb hf.lt).trans hf))) hg
def StepSays (R : Option Nat) (W W' : World) (vb : Nat) (p : Option Addr) (last : Int) : Prop := (∀ eb, R = some eb → ∀ pl, W.cell? ⟨eb, 0, none⟩ = some (.int .i64 pl) → VwBlk W' vb p none pl) ∧ (R = none → VwBlk W' vb none none last)
theorem TrIs.below {A B : World} (hb : Below A.heap.size A B) : ∀ {n : Nat} {t : Tr n} {p : Option Addr}, TrIs A t p → TrIs B t p := by
 intro n
 induction n with
 | zero => intro t p h; exact h
 | succ n ih =>
  intro t p h
  match t, h with
  | none, h => exact h
  | some (tb, eb, pl, ht, l, r), h =>
   obtain ⟨h1, lp, rp, hblk, hc, hl, hr⟩ := h
   have hlt := (Array.getElem?_eq_some_iff.1 hblk).1
   have hel : eb < A.heap.size := by
    by_cases hlt' : eb < A.heap.size
    ·exact hlt'
    ·have : A.heap[eb]? = none := Array.getElem?_eq_none (by omega)
     simp [World.cell?, this] at hc
   exact ⟨h1, lp, rp, (hb.block tb hlt).trans hblk, (hb.cell (p := ⟨eb, 0, none⟩) hel).trans hc, ih hl, ih hr⟩
theorem step_one (vb : Nat) (p : Option Addr) (last : Int) {n : Nat} (t : Tr n) (W : World) (hv : VwBlk W vb p none last) (ht : TrIs W t p) (hpl : ∀ eb, afterT t last none = some eb → ∃ pl, W.cell? ⟨eb, 0, none⟩ = some (.int .i64 pl) ∧ eb < W.heap.size ∧ eb ≠ vb) :
  Calls Tryz.prog 40 #[.pointer (some ⟨vb, 0, none⟩)] W fun e W' => e = .returned (ptrE (afterT t last none)) ∧ GrB (fun k => k = vb) W.heap.size W W' ∧ StepSays (afterT t last none) W W' vb p last := by
 have HA : Hid (∀ V, Below W.heap.size W V → Calls Tryz.prog 55 #[.pointer p, .int .i64 last] V fun e W' => e = .returned (ptrE (afterT t last none)) ∧ Below V.heap.size V W') := fun V hV => after_any t p last V (ht.below hV)
 have HN : Hid (∀ V, Calls Tryz.prog 55 #[.pointer none, .int .i64 last] V fun e W' => e = .returned (ptrE none) ∧ Below V.heap.size V W') := fun V => after_any (n := 0) () none last V rfl
 have HE : Hid (∀ V, Calls Tryz.prog 54 #[ptrE (afterT t last none), ptrE none] V fun e W' => e = .returned (ptrE (afterT t last none)) ∧ Below V.heap.size V W') := fun V => earlier_left _ V
 have hvl := hv.lt
 generalize afterT t last none = R at *
 have KEEP : W.cell? ⟨vb, 0, none⟩ = some (.pointer p) ∧ W.cell? ⟨vb, 1, none⟩ = some (.pointer none) ∧ W.cell? ⟨vb, 2, none⟩ = some (.int .i64 last) := hv.cs.1
 have hca := HA.out W.drew (Below.refl _ W).drew
 have HV := hide hv
 clear hv ht HA
 go_enter Tryz.func40, Tryz.ntmps40
 go_wp2_with fail
 refine wp_region_noPanic ?_
 refine wp_region_held_drew (S := (fun w' => w'.cell? ⟨vb, 0, none⟩ = some (.pointer p) ∧ w'.cell? ⟨vb, 1, none⟩ = some (.pointer none) ∧ w'.cell? ⟨vb, 2, none⟩ = some (.int .i64 last))) (by kernel_rfl) ?_ (fun hHeld => ?_)
 ·exact KEEP
 refine wpAnyH_take (i := 0) (oi := { dst := some 4, op := Op.move (Operand.tmp 0), type := 40, pos := "look.go:91", after := #[], guard := none }) (v := ?_) rfl (by kernel_rfl) (by kernel_rfl) (by kernel_rfl) (fun _ _ _ h => h) (Or.inl ⟨by rfl, ?_⟩) hHeld ?_
 rotate_left
 ·(intro w' hSw; (try dsimp only at hSw); go_simp; try with_reducible rfl)
 try simp only [Act.put, List.setIfInBounds_toArray, List.set_cons_zero, List.set_cons_succ]
 refine wpAnyH_take (i := 1) (oi := { dst := some 5, op := Op.nilCheck (Operand.tmp 4), type := 0, pos := "look.go:91", after := #[{ on := 0, ground := Ground.data }], guard := none }) (v := ?_) rfl (by kernel_rfl) (by kernel_rfl) (by kernel_rfl) (fun _ _ _ h => h) (Or.inl ⟨by rfl, ?_⟩) hHeld ?_
 rotate_left
 ·(intro w' hSw; (try dsimp only at hSw); go_simp; try with_reducible rfl)
 try simp only [Act.put, List.setIfInBounds_toArray, List.set_cons_zero, List.set_cons_succ]
 refine wpAnyH_take (i := 2) (oi := { dst := some 6, op := Op.fieldAddr 113 (Operand.tmp 5) 0, type := 0, pos := "look.go:91", after := #[{ on := 1, ground := Ground.data }], guard := none }) (v := ?_) rfl (by kernel_rfl) (by kernel_rfl) (by kernel_rfl) (fun _ _ _ h => h) (Or.inl ⟨by rfl, ?_⟩) hHeld ?_
 rotate_left
 ·(intro w' hSw; (try dsimp only at hSw); go_simp; try with_reducible rfl)
 try simp only [Act.put, List.setIfInBounds_toArray, List.set_cons_zero, List.set_cons_succ]
 refine wpAnyH_take (i := 3) (oi := { dst := some 7, op := Op.indexAddr 111 (Operand.tmp 6) (Operand.const (Value.int IntKind.i64 0)), type := 0, pos := "look.go:91", after := #[{ on := 2, ground := Ground.data }], guard := none }) (v := ?_) rfl (by kernel_rfl) (by kernel_rfl) (by kernel_rfl) (fun _ _ _ h => h) (Or.inl ⟨by rfl, ?_⟩) hHeld ?_
 rotate_left
 ·(intro w' hSw; (try dsimp only at hSw); go_simp; try with_reducible rfl)
 try simp only [Act.put, List.setIfInBounds_toArray, List.set_cons_zero, List.set_cons_succ]
 refine wpAnyH_take (i := 4) (oi := { dst := some 8, op := Op.load 104 (Operand.tmp 7), type := 104, pos := "look.go:91", after := #[{ on := 3, ground := Ground.data }], guard := none }) (v := ?_) rfl (by kernel_rfl) (by kernel_rfl) (by kernel_rfl) (fun _ _ _ h => h) (Or.inl ⟨by rfl, ?_⟩) hHeld ?_
 rotate_left
 ·(intro w' hSw; (try dsimp only at hSw); go_simp; try with_reducible rfl)
 try simp only [Act.put, List.setIfInBounds_toArray, List.set_cons_zero, List.set_cons_succ]
 refine wpAnyH_take (i := 5) (oi := { dst := some 9, op := Op.move (Operand.tmp 0), type := 40, pos := "look.go:91", after := #[], guard := none }) (v := ?_) rfl (by kernel_rfl) (by kernel_rfl) (by kernel_rfl) (fun _ _ _ h => h) (Or.inl ⟨by rfl, ?_⟩) hHeld ?_
 rotate_left
 ·(intro w' hSw; (try dsimp only at hSw); go_simp; try with_reducible rfl)
 try simp only [Act.put, List.setIfInBounds_toArray, List.set_cons_zero, List.set_cons_succ]
 refine wpAnyH_take (i := 6) (oi := { dst := some 10, op := Op.nilCheck (Operand.tmp 9), type := 0, pos := "look.go:91", after := #[{ on := 5, ground := Ground.data }], guard := none }) (v := ?_) rfl (by kernel_rfl) (by kernel_rfl) (by kernel_rfl) (fun _ _ _ h => h) (Or.inl ⟨by rfl, ?_⟩) hHeld ?_
 rotate_left
 ·(intro w' hSw; (try dsimp only at hSw); go_simp; try with_reducible rfl)
 try simp only [Act.put, List.setIfInBounds_toArray, List.set_cons_zero, List.set_cons_succ]
 refine wpAnyH_take (i := 7) (oi := { dst := some 11, op := Op.fieldAddr 113 (Operand.tmp 10) 1, type := 0, pos := "look.go:91", after := #[{ on := 6, ground := Ground.data }], guard := none }) (v := ?_) rfl (by kernel_rfl) (by kernel_rfl) (by kernel_rfl) (fun _ _ _ h => h) (Or.inl ⟨by rfl, ?_⟩) hHeld ?_
 rotate_left
 ·(intro w' hSw; (try dsimp only at hSw); go_simp; try with_reducible rfl)
 try simp only [Act.put, List.setIfInBounds_toArray, List.set_cons_zero, List.set_cons_succ]
 refine wpAnyH_take (i := 8) (oi := { dst := some 12, op := Op.load 3 (Operand.tmp 11), type := 3, pos := "look.go:91", after := #[{ on := 7, ground := Ground.data }], guard := none }) (v := ?_) rfl (by kernel_rfl) (by kernel_rfl) (by kernel_rfl) (fun _ _ _ h => h) (Or.inl ⟨by rfl, ?_⟩) hHeld ?_
 rotate_left
 ·(intro w' hSw; (try dsimp only at hSw); go_simp; try with_reducible rfl)
 try simp only [Act.put, List.setIfInBounds_toArray, List.set_cons_zero, List.set_cons_succ]
 refine wpAnyH_take (i := 10) (oi := { dst := some 14, op := Op.move (Operand.tmp 0), type := 40, pos := "look.go:91", after := #[], guard := none }) (v := ?_) rfl (by kernel_rfl) (by kernel_rfl) (by kernel_rfl) (fun _ _ _ h => h) (Or.inl ⟨by rfl, ?_⟩) hHeld ?_
 rotate_left
 ·(intro w' hSw; (try dsimp only at hSw); go_simp; try with_reducible rfl)
 try simp only [Act.put, List.setIfInBounds_toArray, List.set_cons_zero, List.set_cons_succ]
 refine wpAnyH_take (i := 11) (oi := { dst := some 15, op := Op.nilCheck (Operand.tmp 14), type := 0, pos := "look.go:91", after := #[{ on := 10, ground := Ground.data }], guard := none }) (v := ?_) rfl (by kernel_rfl) (by kernel_rfl) (by kernel_rfl) (fun _ _ _ h => h) (Or.inl ⟨by rfl, ?_⟩) hHeld ?_
 rotate_left
 ·(intro w' hSw; (try dsimp only at hSw); go_simp; try with_reducible rfl)
 try simp only [Act.put, List.setIfInBounds_toArray, List.set_cons_zero, List.set_cons_succ]
 refine wpAnyH_take (i := 12) (oi := { dst := some 16, op := Op.fieldAddr 113 (Operand.tmp 15) 0, type := 0, pos := "look.go:91", after := #[{ on := 11, ground := Ground.data }], guard := none }) (v := ?_) rfl (by kernel_rfl) (by kernel_rfl) (by kernel_rfl) (fun _ _ _ h => h) (Or.inl ⟨by rfl, ?_⟩) hHeld ?_
 rotate_left
 ·(intro w' hSw; (try dsimp only at hSw); go_simp; try with_reducible rfl)
 try simp only [Act.put, List.setIfInBounds_toArray, List.set_cons_zero, List.set_cons_succ]
 refine wpAnyH_take (i := 13) (oi := { dst := some 17, op := Op.indexAddr 111 (Operand.tmp 16) (Operand.const (Value.int IntKind.i64 1)), type := 0, pos := "look.go:91", after := #[{ on := 12, ground := Ground.data }], guard := none }) (v := ?_) rfl (by kernel_rfl) (by kernel_rfl) (by kernel_rfl) (fun _ _ _ h => h) (Or.inl ⟨by rfl, ?_⟩) hHeld ?_
 rotate_left
 ·(intro w' hSw; (try dsimp only at hSw); go_simp; try with_reducible rfl)
 try simp only [Act.put, List.setIfInBounds_toArray, List.set_cons_zero, List.set_cons_succ]
 refine wpAnyH_take (i := 14) (oi := { dst := some 18, op := Op.load 104 (Operand.tmp 17), type := 104, pos := "look.go:91", after := #[{ on := 13, ground := Ground.data }], guard := none }) (v := ?_) rfl (by kernel_rfl) (by kernel_rfl) (by kernel_rfl) (fun _ _ _ h => h) (Or.inl ⟨by rfl, ?_⟩) hHeld ?_
 rotate_left
 ·(intro w' hSw; (try dsimp only at hSw); go_simp; try with_reducible rfl)
 try simp only [Act.put, List.setIfInBounds_toArray, List.set_cons_zero, List.set_cons_succ]
 refine wpAnyH_take (i := 15) (oi := { dst := some 19, op := Op.move (Operand.tmp 0), type := 40, pos := "look.go:91", after := #[], guard := none }) (v := ?_) rfl (by kernel_rfl) (by kernel_rfl) (by kernel_rfl) (fun _ _ _ h => h) (Or.inl ⟨by rfl, ?_⟩) hHeld ?_
 rotate_left
 ·(intro w' hSw; (try dsimp only at hSw); go_simp; try with_reducible rfl)
 try simp only [Act.put, List.setIfInBounds_toArray, List.set_cons_zero, List.set_cons_succ]
 refine wpAnyH_take (i := 16) (oi := { dst := some 20, op := Op.nilCheck (Operand.tmp 19), type := 0, pos := "look.go:91", after := #[{ on := 15, ground := Ground.data }], guard := none }) (v := ?_) rfl (by kernel_rfl) (by kernel_rfl) (by kernel_rfl) (fun _ _ _ h => h) (Or.inl ⟨by rfl, ?_⟩) hHeld ?_
 rotate_left
 ·(intro w' hSw; (try dsimp only at hSw); go_simp; try with_reducible rfl)
 try simp only [Act.put, List.setIfInBounds_toArray, List.set_cons_zero, List.set_cons_succ]
 refine wpAnyH_take (i := 17) (oi := { dst := some 21, op := Op.fieldAddr 113 (Operand.tmp 20) 1, type := 0, pos := "look.go:91", after := #[{ on := 16, ground := Ground.data }], guard := none }) (v := ?_) rfl (by kernel_rfl) (by kernel_rfl) (by kernel_rfl) (fun _ _ _ h => h) (Or.inl ⟨by rfl, ?_⟩) hHeld ?_
 rotate_left
 ·(intro w' hSw; (try dsimp only at hSw); go_simp; try with_reducible rfl)
 try simp only [Act.put, List.setIfInBounds_toArray, List.set_cons_zero, List.set_cons_succ]
 refine wpAnyH_take (i := 18) (oi := { dst := some 22, op := Op.load 3 (Operand.tmp 21), type := 3, pos := "look.go:91", after := #[{ on := 17, ground := Ground.data }], guard := none }) (v := ?_) rfl (by kernel_rfl) (by kernel_rfl) (by kernel_rfl) (fun _ _ _ h => h) (Or.inl ⟨by rfl, ?_⟩) hHeld ?_
 rotate_left
 ·(intro w' hSw; (try dsimp only at hSw); go_simp; try with_reducible rfl)
 try simp only [Act.put, List.setIfInBounds_toArray, List.set_cons_zero, List.set_cons_succ]
 refine wpAnyH_ready (rs := [9]) (by kernel_rfl) (by simp) ?_
 refine AllReadyH.cons (o := { dst := some 13, op := Op.call { callee := Callee.value (Operand.func 55), args := #[Operand.tmp 8, Operand.tmp 12], argTypes := #[104, 3] }, type := 67, pos := "look.go:91", after := #[{ on := 4, ground := Ground.data }, { on := 8, ground := Ground.data }], guard := none }) rfl (fun K hK => ?_) AllReadyH.nil
 have hHold := hHeld
 clear hHeld
 go_simp
 refine (hca).mono ?_
 rintro e V1 ⟨rfl, gV1⟩
 have sV1 : W.heap.size ≤ V1.heap.size := gV1.size
 have kc : ∀ o, V1.cell? ⟨vb, o, none⟩ = W.cell? ⟨vb, o, none⟩ := fun o => World.cell?_of_block (a := ⟨vb, o, none⟩) (w := W) (gV1.block vb (by show vb < W.heap.size; omega))
 have KEEP : V1.cell? ⟨vb, 0, none⟩ = some (.pointer p) ∧ V1.cell? ⟨vb, 1, none⟩ = some (.pointer none) ∧ V1.cell? ⟨vb, 2, none⟩ = some (.int .i64 last) := ⟨(kc _).trans KEEP.1, (kc _).trans KEEP.2.1, (kc _).trans KEEP.2.2⟩
 clear kc
 go_wp2_with fail
 refine hK.out _ _ ?_ (fun hHeld => ?_)
 ·((try dsimp only); exact KEEP)
 clear hK K hHold
 try simp only [Act.put, List.setIfInBounds_toArray, List.set_cons_zero, List.set_cons_succ]
 refine wpAnyH_ready (rs := [19]) (by kernel_rfl) (by simp) ?_
 refine AllReadyH.cons (o := { dst := some 23, op := Op.call { callee := Callee.value (Operand.func 55), args := #[Operand.tmp 18, Operand.tmp 22], argTypes := #[104, 3] }, type := 67, pos := "look.go:91", after := #[{ on := 14, ground := Ground.data }, { on := 18, ground := Ground.data }, { on := 9, ground := Ground.chain }], guard := none }) rfl (fun K hK => ?_) AllReadyH.nil
 have hHold := hHeld
 clear hHeld
 go_simp
 refine (HN.out V1).mono ?_
 rintro e V2 ⟨rfl, gV2⟩
 have sV2 : V1.heap.size ≤ V2.heap.size := gV2.size
 have kc : ∀ o, V2.cell? ⟨vb, o, none⟩ = V1.cell? ⟨vb, o, none⟩ := fun o => World.cell?_of_block (a := ⟨vb, o, none⟩) (w := V1) (gV2.block vb (by show vb < V1.heap.size; omega))
 have KEEP : V2.cell? ⟨vb, 0, none⟩ = some (.pointer p) ∧ V2.cell? ⟨vb, 1, none⟩ = some (.pointer none) ∧ V2.cell? ⟨vb, 2, none⟩ = some (.int .i64 last) := ⟨(kc _).trans KEEP.1, (kc _).trans KEEP.2.1, (kc _).trans KEEP.2.2⟩
 clear kc
 go_wp2_with fail
 refine hK.out _ _ ?_ (fun hHeld => ?_)
 ·((try dsimp only); exact KEEP)
 clear hK K hHold
 try simp only [Act.put, List.setIfInBounds_toArray, List.set_cons_zero, List.set_cons_succ]
 refine wpAnyH_ready (rs := [20]) (by kernel_rfl) (by simp) ?_
 refine AllReadyH.cons (o := { dst := some 24, op := Op.call { callee := Callee.value (Operand.func 54), args := #[Operand.tmp 13, Operand.tmp 23], argTypes := #[67, 67] }, type := 67, pos := "look.go:91", after := #[{ on := 9, ground := Ground.data }, { on := 19, ground := Ground.data }, { on := 19, ground := Ground.chain }], guard := none }) rfl (fun K hK => ?_) AllReadyH.nil
 have hHold := hHeld
 clear hHeld
 go_simp
 refine (HE.out V2).mono ?_
 rintro e V3 ⟨rfl, gV3⟩
 have sV3 : V2.heap.size ≤ V3.heap.size := gV3.size
 have kc : ∀ o, V3.cell? ⟨vb, o, none⟩ = V2.cell? ⟨vb, o, none⟩ := fun o => World.cell?_of_block (a := ⟨vb, o, none⟩) (w := V2) (gV3.block vb (by show vb < V2.heap.size; omega))
 have KEEP : V3.cell? ⟨vb, 0, none⟩ = some (.pointer p) ∧ V3.cell? ⟨vb, 1, none⟩ = some (.pointer none) ∧ V3.cell? ⟨vb, 2, none⟩ = some (.int .i64 last) := ⟨(kc _).trans KEEP.1, (kc _).trans KEEP.2.1, (kc _).trans KEEP.2.2⟩
 clear kc
 go_wp2_with fail
 refine hK.out _ _ ?_ (fun hHeld => ?_)
 ·((try dsimp only); exact KEEP)
 clear hK K hHold
 try simp only [Act.put, List.setIfInBounds_toArray, List.set_cons_zero, List.set_cons_succ]
 refine wpAnyH_take (i := 21) (oi := { dst := some 3, op := Op.assign (Operand.tmp 24), type := 67, pos := "look.go:91", after := #[{ on := 20, ground := Ground.data }, { on := 20, ground := Ground.chain }, { on := 0, ground := Ground.phase }, { on := 1, ground := Ground.phase }, { on := 2, ground := Ground.phase }, { on := 3, ground := Ground.phase }, { on := 4, ground := Ground.phase }, { on := 5, ground := Ground.phase }, { on := 6, ground := Ground.phase }, { on := 7, ground := Ground.phase }, { on := 8, ground := Ground.phase }, { on := 9, ground := Ground.phase }, { on := 10, ground := Ground.phase }, { on := 11, ground := Ground.phase }, { on := 12, ground := Ground.phase }, { on := 13, ground := Ground.phase }, { on := 14, ground := Ground.phase }, { on := 15, ground := Ground.phase }, { on := 16, ground := Ground.phase }, { on := 17, ground := Ground.phase }, { on := 18, ground := Ground.phase }, { on := 19, ground := Ground.phase }, { on := 20, ground := Ground.phase }], guard := none }) (v := ?_) rfl (by kernel_rfl) (by kernel_rfl) (by kernel_rfl) (fun _ _ _ h => h) (Or.inl ⟨by rfl, ?_⟩) hHeld ?_
 rotate_left
 ·(intro w' hSw; (try dsimp only at hSw); go_simp; try with_reducible rfl)
 try simp only [Act.put, List.setIfInBounds_toArray, List.set_cons_zero, List.set_cons_succ]
 refine wpAnyH_done (by kernel_rfl) ?_ _
 refine NoPanic.normal ?_
 clear hHeld hca HN HE
 have g1' : Below W.heap.size W.drew V1 := gV1
 have gW3 : Below W.heap.size W V3 := ((Below.refl _ W).drew.trans g1').trans ((gV2.mono (by omega)).trans (gV3.mono (by omega)))
 clear g1'
 have hv3 : VwBlk V3 vb p none last := (gW3.block vb hvl).trans (unhide HV)
 obtain ⟨⟨v0, v1, v2⟩, f0, f1, f2⟩ := hv3.cs
 cases R with
 | none =>
  have hv4 := ((hv3.set.1 none).set).2.1 none
  have HF : Hid (GrB (fun k => k = vb) W.heap.size W ((V3.setCell ⟨vb, 0, none⟩ (.pointer none)).setCell ⟨vb, 1, none⟩ (.pointer none)) ∧ VwBlk ((V3.setCell ⟨vb, 0, none⟩ (.pointer none)).setCell ⟨vb, 1, none⟩ (.pointer none)) vb none none last) := ⟨⟨gW3.os, gW3.tape, gW3.output, by have := gW3.size; simpa using this, fun k hk hx => (Below.heap_setCell _ _ _ _ (by simpa using hx)).trans ((Below.heap_setCell _ _ _ _ (by simpa using hx)).trans (gW3.block k hk))⟩, hv4⟩
  clear gW3 hv3 hv4 KEEP HV gV1 gV2 gV3 hpl
  simp only [ptrE, Option.map_none]
  go_wp2_with fail
  all_goals go_ret
  all_goals exact ⟨rfl, HF.out.1, (fun eb h => by cases h), (fun _ => HF.out.2)⟩
 | some eb =>
  obtain ⟨pl, hpc, hel, hne⟩ := hpl eb rfl
  have hp3 : V3.cell? ⟨eb, 0, none⟩ = some (.int .i64 pl) := (gW3.cell (p := ⟨eb, 0, none⟩) hel).trans hpc
  have hv4 := hv3.set.2.2 pl
  have HF : Hid (GrB (fun k => k = vb) W.heap.size W (V3.setCell ⟨vb, 2, none⟩ (.int .i64 pl)) ∧ VwBlk (V3.setCell ⟨vb, 2, none⟩ (.int .i64 pl)) vb p none pl ∧ W.cell? ⟨eb, 0, none⟩ = some (.int .i64 pl)) := ⟨⟨gW3.os, gW3.tape, gW3.output, by have := gW3.size; simpa using this, fun k hk hx => (Below.heap_setCell _ _ _ _ (by simpa using hx)).trans (gW3.block k hk)⟩, hv4, hpc⟩
  clear gW3 hv3 hv4 KEEP HV gV1 gV2 gV3 hpl hpc
  simp only [ptrE, Option.map_some]
  go_wp2_with fail
  all_goals go_ret
  all_goals exact ⟨rfl, HF.out.1, (fun eb' h pl' hp' => by cases h; rw [HF.out.2.2] at hp'; cases hp'; exact HF.out.2.1), (fun h => by cases h)⟩
end Go.Proofs.YtlbobmebbllifaaGreat
