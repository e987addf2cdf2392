import Derived.Test.YtlbobmebbllifaaGreatBbBs
import Derived.Test.YtlbobmebbllifaaGreatBbC
import Derived.Test.YtlbobmebbllifaaGreatTs
import Derived.Test.YtlbobmebbllifaaGreatQs
import Derived.Maps.RangeWalk
import Derived.Maps.OwnSet
import Derived.Maps.Views
/- base.Body. -/
namespace Go.Proofs.YtlbobmebbllifaaGreat
set_option maxHeartbeats 2000000
set_option maxRecDepth 100000
open Go.RowKit Go.Shelf
theorem stands_holds {n b o : Nat} {L : List Nat} {sz : Nat} {W' : World} {c : List Nd} {lo : Nat} (h : StandsB n b o L sz W' c) (hL : ∀ k ∈ L, lo ≤ k) (hsz : lo ≤ sz) : ∃ y : TV, cellsAt W' b o y ∧ HoldsL (n + 1) (lo ≤ ·) W' y.val c := by
 obtain ⟨t', h1, h2, h3, _, h5, h6⟩ := h
 refine ⟨t'.tv, h1, ?_⟩
 rw [← h5]
 exact holdsL_of h2 (blk_of h2 fun k hk => by
  rcases h6 k hk with h | h
  ·exact hL k h
  ·exact Nat.le_trans hsz h) h3
theorem isL_nil (m : Nat) (W : World) (n : Nat) : IsL m W none 0 ([] : List (Int × Tm n)) := by
 refine ⟨rfl, by omega, ?_⟩
 exact .inl rfl
theorem apply_nil {n : Nat} (t : Tm n) (w : World) (hT : IsT w.heap.size w t) (hok : okT t = true) :
  Calls Tryz.prog 42 #[t.tv.val, .slice none 0 0] w fun e W' => ∃ x : TV, e = .returned (.tuple #[x.val, .int .i64 0]) ∧ Below w.heap.size w W' ∧ HoldsT (n + (n + 1)) w.heap.size W' x.val (code t) := by
 have h := apply_ok t ([] : List (Int × Tm n)) none 0 0 w hT (isL_nil _ _ _) hok (fun p hp => by cases hp) ⟨(fun p hp => by cases hp), (fun i j p q h => by simp at h)⟩
 have e : (code t).flatMap (subN (lookC (cb ([] : List (Int × Tm n))))) = code t := sub_var hok
 rw [e] at h
 exact h
theorem body_bad {n : Nat} (t : Tm n) (W : World) (hT : IsT W.heap.size W t) (hok : okT t = false) :
  Calls Tryz.prog 18 #[t.tv.val] W fun e W' => e = .returned (.tuple #[noTerm.val, .int .i64 2]) ∧ Below W.heap.size W W' := by
 have HA : Hid (∀ V, Below W.heap.size W V → Calls Tryz.prog 42 #[t.tv.val, .slice none 0 0] V fun e W' => e = .returned (.tuple #[.agg #[.int .i64 0, .int .i64 0, .string ⟨#[]⟩, .slice none 0 0], .int .i64 2]) ∧ Below V.heap.size V W') := fun V hV => apply_bad t none 0 0 V ((hT.below hV).mono hV.size) hok
 have hH := Head.new W t.tv
 have ha := HA.out _ hH.below
 clear hT hok HA
 simp only [TV.val, noTerm] at ha ⊢
 go_enter Tryz.func18, Tryz.ntmps18
 go_wp2_with fail
 refine ha.mono ?_
 clear ha
 rintro e W1 ⟨rfl, hb1⟩
 replace hH := (hH.next hb1).next ((Below.refl _ W1).alloc (o := .cells #[.int .i64 0, .int .i64 0, .string ⟨#[]⟩, .slice none 0 0] 24) (Nat.le_refl _))
 obtain ⟨⟨z0, z1, z2, z3⟩, y0, y1, y2, y3⟩ := zbox_kept hH.bz
 have HH := hide hH
 clear hH hb1
 go_wp2_with fail
 exact bodyPost_ret (v := .tuple #[.agg #[.int .i64 0, .int .i64 0, .string ⟨#[]⟩, .slice none 0 0], .int .i64 2]) (by simp [results, Tryz.results18, go_sem, z0, z1, z2, z3]) rfl ⟨rfl, set4_below (unhide HH).below (by omega) 0 ⟨0, 0, ⟨#[]⟩, none, 0, 0⟩⟩
theorem body_ok {n : Nat} (t : Tm n) (W : World) (hT : IsT W.heap.size W t) (hok : okT t = true) (hn40 : n ≤ 549755813888 := by omega) :
  Calls Tryz.prog 18 #[t.tv.val] W fun e W' => (∃ x : TV, e = .returned (.tuple #[x.val, .int .i64 (if (bodyC t).isSome = true then 0 else 7)]) ∧ HoldsL (n + (n + 1) + 1) (W.heap.size ≤ ·) W' x.val (orNo (bodyC t))) ∧ Below W.heap.size W W' := by
 have HA : Hid (∀ V, Below W.heap.size W V → Calls Tryz.prog 42 #[t.tv.val, .slice none 0 0] V fun e W' => ∃ x : TV, e = .returned (.tuple #[x.val, .int .i64 0]) ∧ Below V.heap.size V W' ∧ HoldsT (n + (n + 1)) V.heap.size W' x.val (code t)) := fun V hV => apply_nil t V ((hT.below hV).mono hV.size) hok
 have hH := Head.new W t.tv
 have ha := HA.out _ hH.below
 have HB : Hid (∀ {m : Nat} (o : Tm m), Wl o → code o = code t → bodyC o = bodyC t ∧ okT o = true) := fun o ho hc => ⟨body_copy hT.wl hok ho hc, by rw [okT_m, hc, ← okT_m]; exact hok⟩
 clear hT hok HA
 generalize bodyC t = r at HB ⊢
 simp only [TV.val] at ha ⊢
 go_enter Tryz.func18, Tryz.ntmps18
 go_wp2_with fail
 refine ha.mono ?_
 clear ha
 rintro e W1 ⟨x, rfl, hb1, hx⟩
 rw [show ((W.alloc (.cells #[.int .i64 t.tv.k, .int .i64 t.tv.N, .string t.tv.s, .slice t.tv.a t.tv.len t.tv.cap] 24)).alloc (.cells #[.int .i64 0, .int .i64 0, .string ⟨#[]⟩, .slice none 0 0] 24)).heap.size = W.heap.size + 2 by simp] at hx
 replace hH := hH.next hb1
 have hlt := hH.lt
 obtain ⟨o, ho, hoT', hoN, hoc⟩ := hx _ (Nat.le_refl _)
 have hoT := hoT' (by omega)
 clear hoT'
 obtain rfl := tv_inj ho
 obtain ⟨hbo, hok⟩ := HB.out o hoT.wl hoc
 clear hx ho HB hoc hb1
 have hb2 : Below W1.heap.size W1 (W1.alloc (.cells #[.int .i64 o.tv.k, .int .i64 o.tv.N, .string o.tv.s, .slice o.tv.a o.tv.len o.tv.cap] 24)) := (Below.refl _ W1).alloc (Nat.le_refl _) _
 have hbx := BoxT.new W1 o.tv
 have hL : ∀ k ∈ blks o, W.heap.size + 2 ≤ k ∧ k < W1.heap.size := fun k hk => ⟨(hoN.wh.blks_in k hk).1, (hoN.wh.blks_in k hk).2.1⟩
 have hmb := makeBody_any _ o W1.heap.size 0 (W1.alloc (.cells #[.int .i64 o.tv.k, .int .i64 o.tv.N, .string o.tv.s, .slice o.tv.a o.tv.len o.tv.cap] 24)) hok ⟨hbx.c0, hbx.c1, hbx.c2, hbx.c3⟩ ⟨_, _, hbx, by simp⟩ ((hoT.below hb2).mono hb2.size) ((hoN.below hb2).wh.rows hoT.wl) hoN.ap (fun hm => by have := (hL _ hm).2; omega)
 rw [hbo] at hmb
 replace hH := hH.next hb2
 have HH := hide hH
 have HL := hide hL
 have HS : Hid (W1.heap.size + 1 = (W1.alloc (.cells #[.int .i64 o.tv.k, .int .i64 o.tv.N, .string o.tv.s, .slice o.tv.a o.tv.len o.tv.cap] 24)).heap.size) := by show _ = _; simp
 have HLT := hide hlt
 clear hH hL hoT hoN hok hbo hb2 hbx hlt
 go_wp2_with fail
 refine hmb.mono ?_
 clear hmb
 rintro e W3 ⟨rfl, hm3⟩
 obtain ⟨ht3, hs3⟩ := hm3
 have hs := ht3.gr.size
 have hBW : Below W.heap.size W W3 := (unhide HH).below.trans (ht3.gr.below (n₀ := W.heap.size) (fun k hk => by
  rcases hk with rfl | hk
  ·have := unhide HLT; omega
  ·have := (unhide HL k hk).1; omega) (by have := (unhide HH).below.size; omega))
 have hz3 := (ht3.gr.block (W.heap.size + 1) (unhide HH).lt (by
  rintro (h | h)
  ·have := unhide HLT; omega
  ·have := (unhide HL _ h).1; omega)).trans (unhide HH).bz
 obtain ⟨⟨z0, z1, z2, z3⟩, y0, y1, y2, y3⟩ := zbox_kept hz3
 cases r with
 | none =>
  have HF : Hid (Below W.heap.size W (set4 W3 (W.heap.size + 1) 0 noTerm)) := set4_below hBW (by omega) 0 _
  clear hBW hz3 HH HL ht3 hs3 HS HLT hs
  simp only [Option.isSome_none]
  go_wp2_with fail
  exact bodyPost_ret (v := .tuple #[noTerm.val, .int .i64 7]) (by simp [results, Tryz.results18, go_sem, TV.val, noTerm, z0, z1, z2, z3]) rfl ⟨⟨noTerm, rfl, (no_holds _ _ (by omega) _).holdsL⟩, HF.out⟩
 | some c =>
  obtain ⟨y, hy, hyS⟩ := stands_holds (lo := W.heap.size + 2) (hs3 c rfl) (fun k hk => (unhide HL k hk).1) (by have := HS.out; have := unhide HLT; omega)
  obtain ⟨c0, c1, c2, c3⟩ := hy
  have HF : Hid (Below W.heap.size W (set4 W3 (W.heap.size + 1) 0 y) ∧ HoldsL (n + (n + 1) + 1) (W.heap.size ≤ ·) (set4 W3 (W.heap.size + 1) 0 y) y.val c) := ⟨set4_below hBW (by omega) 0 _, (holdsL_set4 hyS (by omega) 0 y).mono (Nat.le_refl _) (fun k hk => by have : W.heap.size + 2 ≤ k := hk; show W.heap.size ≤ k; omega)⟩
  clear hBW hz3 HH HL ht3 hs3 HS hyS hs HLT
  simp only [Option.isSome_some]
  go_wp2_with fail
  exact bodyPost_ret (v := .tuple #[y.val, .int .i64 0]) (by simp [results, Tryz.results18, go_sem, TV.val, z0, z1, z2, z3]) rfl ⟨⟨y, rfl, HF.out.2⟩, HF.out.1⟩
/- Keys that are numbers; what a world keeps but for a map's block. -/
open Go.Maps
theorem Tryz.keyed2 : Keyed Tryz.prog 2 := int_keyed Tryz.underlying2
theorem key_i64 {N : Int} (h0 : 0 ≤ N) (h1 : N ≤ 1099511627776) : keyOf Tryz.prog 2 (.int .i64 N) = some (.int .i64 N) :=
 keyOf_int_mk Tryz.underlying2 (by simp [Lit.wf, IntKind.min, IntKind.max, IntKind.signed, IntKind.bits]; omega)
theorem nodup_le : ∀ (M : Nat) (l : List Nat), l.Nodup → (∀ x ∈ l, x < M) → l.length ≤ M
 | 0, l, _, h => by
  cases l with
  | nil => simp
  | cons a l => have := h a (by simp); omega
 | M + 1, l, hn, h => by
  by_cases hm : M ∈ l
  ·have h1 := nodup_le M (l.erase M) (hn.erase _) (fun x hx => by
    have h2 := (List.Nodup.mem_erase_iff hn).1 hx
    have h3 := h x h2.2
    have h4 := h2.1
    omega)
   rw [List.length_erase_of_mem hm] at h1
   omega
  ·have h1 := nodup_le M l hn (fun x hx => by
    have h3 := h x hx
    by_cases e : x = M
    ·subst e; exact (hm hx).elim
    ·omega)
   omega
/- The contracts of number's closure and of term.number: variables get new numbers in the order of their coming. -/
set_option maxHeartbeats 1000000
set_option maxRecDepth 100000
structure NumI (f : Int) (mb bb nb : Nat) (c : List Int) (W : World) : Prop where
 nodup : c.Nodup
 key : ∀ N ∈ c, 0 ≤ N ∧ N ≤ 1099511627776
 box : W.heap[bb]? = some (.cells #[.map (some mb)] 127 (0, 0))
 next : W.heap[nb]? = some (.cells #[.int .i64 (f + (c.length : Nat))] 2 (0, 0))
 map : ∃ E : DataW Unit, W.ownsMap Tryz.prog 2 (plainElem Tryz.prog 2) mb c.length E ∧ (∀ N, Maps.has E (.int .i64 N) = true ↔ N ∈ c) ∧ ∀ N ∈ c, ∀ z, E.atKey (.int .i64 N) z = .lit (.int .i64 (f + (c.idxOf N : Nat)))
theorem numI_keep {f : Int} {mb bb nb lo : Nat} (h1 : mb < lo) (h2 : bb < lo) (h3 : nb < lo) {c : List Int} {W W' : World} (h : NumI f mb bb nb c W) (hb : Below lo W W') : NumI f mb bb nb c W' := by
 obtain ⟨E, ⟨es, clock, e1, e2⟩, e3⟩ := h.map
 exact ⟨h.nodup, h.key, (hb.block _ h2).trans h.box, (hb.block _ h3).trans h.next, E, ⟨es, clock, (hb.block _ h1).trans e1, e2⟩, e3⟩
theorem nodup_range {c : List Int} (hn : c.Nodup) (hk : ∀ N ∈ c, 0 ≤ N ∧ N ≤ 1099511627776) : c.length ≤ 1099511627777 := by
 have h1 := nodup_le 1099511627777 (c.map Int.toNat) (by
  rw [List.Nodup, List.pairwise_map]
  exact List.Pairwise.imp_of_mem (fun {p q} hp hq hne e => hne (by have := hk p hp; have := hk q hq; omega)) hn) (fun x hx => by
  obtain ⟨q, hq, rfl⟩ := List.mem_map.1 hx
  have := hk q hq
  omega)
 simpa using h1
theorem stately_num {f : Int} {mb bb nb n₀ lo : Nat} (h0 : n₀ ≤ lo) (h1 : n₀ ≤ mb ∧ mb < lo) (h2 : bb < lo) (h3 : n₀ ≤ nb ∧ nb < lo) : Stately (NumI f mb bb nb) (fun k => k = mb ∨ k = nb) n₀ lo stpN (renN f) where
 low := h0
 blocks := by rintro k (rfl | rfl) <;> assumption
 keep := fun s W W' h _ hb => numI_keep h1.2 h2 h3.2 h hb
 stay := fun s N l => by
  obtain ⟨d, hd⟩ := stepsN_ext l (stpN s N)
  unfold renN
  rw [hd, idxOf_ext (stpN_mem s N)]
theorem Tryz.zero2 (w : World) : (zeroValue 2).run Tryz.prog w = .ok (.int .i64 0) w := by kernel_rfl
theorem wf_i64 {N : Int} (h0 : 0 ≤ N) (h1 : N ≤ 9223372036854775807) : (Lit.int .i64 N).wf = true := by simp [Lit.wf, IntKind.min, IntKind.max, IntKind.signed, IntKind.bits]; omega
theorem numI_look {f : Int} {mb bb nb : Nat} {c : List Int} {W : World} (h : NumI f mb bb nb c W) {N : Int} (h0 : 0 ≤ N) (h1 : N ≤ 1099511627776) (hN : N ∈ c) :
  (Instr.lookup 127 (.map (some mb)) (.int .i64 N) true).run Tryz.prog W = .ok (.tuple #[.int .i64 (f + (c.idxOf N : Nat)), .bool true]) W := by
 obtain ⟨E, e1, e2, e3⟩ := h.map
 obtain ⟨v, ps, hrun, hv⟩ := e1.look_ok Tryz.keyed2 Tryz.underlying127 (Tryz.zero2 W) (plainElem_int Tryz.underlying2 (by decide)) (key_i64 h0 h1)
 rw [(e2 N).2 hN] at hrun
 rw [e3 N hN] at hv
 obtain ⟨y, rfl, hy, _⟩ := plainElem_int_inv Tryz.underlying2 hv
 simp at hy
 rw [hrun, hy.1]
theorem numI_miss {f : Int} {mb bb nb : Nat} {c : List Int} {W : World} (h : NumI f mb bb nb c W) {N : Int} (h0 : 0 ≤ N) (h1 : N ≤ 1099511627776) (hN : N ∉ c) :
  (Instr.lookup 127 (.map (some mb)) (.int .i64 N) true).run Tryz.prog W = .ok (.tuple #[.int .i64 0, .bool false]) W := by
 obtain ⟨E, e1, e2, e3⟩ := h.map
 obtain ⟨v, ps, hrun, hv⟩ := e1.look_ok Tryz.keyed2 Tryz.underlying127 (Tryz.zero2 W) (plainElem_int Tryz.underlying2 (by decide)) (key_i64 h0 h1)
 have hf : Maps.has E (.int .i64 N) = false := by
  cases hh : Maps.has E (.int .i64 N) with
  | false => rfl
  | true => exact (hN ((e2 N).1 hh)).elim
 rw [hf] at hrun
 rw [atKey_of_not_has hf] at hv
 obtain ⟨y, rfl, hy, _⟩ := plainElem_int_inv Tryz.underlying2 hv
 simp at hy
 rw [hrun, hy.1]
theorem one_cell {W : World} {b : Nat} {v : Value} {T : TypeId} (h : W.heap[b]? = some (.cells #[v] T (0, 0))) : W.cell? ⟨b, 0, none⟩ = some v ∧ W.frozen? ⟨b, 0, none⟩ = false := by
 constructor <;> simp [World.cell?, World.frozen?, h]
theorem set_one {W : World} {b : Nat} {v v' : Value} {T : TypeId} (h : W.heap[b]? = some (.cells #[v] T (0, 0))) : (W.setCell ⟨b, 0, none⟩ v').heap[b]? = some (.cells #[v'] T (0, 0)) := by
 obtain ⟨hlt, hk⟩ := Array.getElem?_eq_some_iff.1 h
 show (W.heap.modify b _)[b]? = _
 rw [Array.getElem?_eq_getElem (by rw [Array.size_modify]; exact hlt), Array.getElem_modify_self, hk]
 rfl
theorem numI_put {f : Int} {mb bb nb : Nat} {c : List Int} {W : World} (h : NumI f mb bb nb c W) (hf0 : 0 ≤ f) (hf1 : f ≤ 1099511627776) (hne : mb ≠ bb ∧ mb ≠ nb ∧ bb ≠ nb) {N : Int} (h0 : 0 ≤ N) (h1 : N ≤ 1099511627776) (hN : N ∉ c) :
  ∃ W', (Instr.mapUpdate 127 (.map (some mb)) (.int .i64 N) (.int .i64 (f + (c.length : Nat)))).run Tryz.prog W = .ok () W' ∧ W.grownBy W' (some mb) ∧ W'.heap[nb]? = some (.cells #[.int .i64 (f + (c.length : Nat))] 2 (0, 0)) ∧ NumI f mb bb nb (c ++ [N]) (W'.setCell ⟨nb, 0, none⟩ (.int .i64 (f + (c.length : Nat) + 1))) := by
 have hle := nodup_range h.nodup h.key
 obtain ⟨E, e1, e2, e3⟩ := h.map
 have hm := e1.isMap
 obtain ⟨W', hrun, f1, f2⟩ := e1.update Tryz.keyed2 Tryz.underlying127 (by unfold maxLen; omega) (key_i64 h0 h1) (plainElem_int Tryz.underlying2 (wf_i64 (N := f + (c.length : Nat)) (by omega) (by omega)))
 have hkl : WideAt.IsKeyLit (.int .i64 N) := Tryz.keyed2.key (key_i64 h0 h1)
 have hlt : ∀ {k : Nat} {o : Obj}, W.heap[k]? = some o → k < W.heap.size := fun hk => (Array.getElem?_eq_some_iff.1 hk).1
 have hnx : W'.heap[nb]? = some (.cells #[.int .i64 (f + (c.length : Nat))] 2 (0, 0)) := (f2.block nb (hlt h.next) (by simpa using hne.2.1.symm)).trans h.next
 have hbx : W'.heap[bb]? = some (.cells #[.map (some mb)] 127 (0, 0)) := (f2.block bb (hlt h.box) (by simpa using hne.1.symm)).trans h.box
 refine ⟨W', hrun, f2, hnx, ⟨?_, ?_, ?_, ?_, _, f1.setCell (a := ⟨nb, 0, none⟩) hne.2.1 _ |>.mono (by simp), ?_, ?_⟩⟩
 ·rw [List.nodup_append]
  exact ⟨h.nodup, by simp, fun a ha b hb => by simp at hb; subst hb; exact fun e => hN (e ▸ ha)⟩
 ·intro M hM
  rcases List.mem_append.1 hM with hM | hM
  ·exact h.key M hM
  ·simp at hM; subst hM; exact ⟨h0, h1⟩
 ·rw [Below.heap_setCell _ _ _ _ (by simpa using hne.2.2)]; exact hbx
 ·rw [set_one hnx]
  have : f + ((c ++ [N]).length : Nat) = f + (c.length : Nat) + 1 := by simp; omega
  rw [this]
 ·intro M
  by_cases e : M = N
  ·subst e
   rw [has_put_same hm hkl]
   simp
  ·rw [has_put_other (by simpa using e), e2 M]
   simp [e]
 ·intro M hM z
  by_cases e : M = N
  ·subst e
   rw [atKey_put_same hm hkl]
   have : (c ++ [M]).idxOf M = c.length := by rw [List.idxOf_append, if_neg hN]; simp
   rw [this]
  ·have hMc : M ∈ c := by simpa [e] using hM
   rw [atKey_put_other (by simpa using e), e3 M hMc, idxOf_ext hMc]
theorem zbox_new (W : World) : (W.alloc (.cells #[.int .i64 0, .int .i64 0, .string ⟨#[]⟩, .slice none 0 0] 24)).heap[W.heap.size]? = some (.cells #[.int .i64 0, .int .i64 0, .string ⟨#[]⟩, .slice none 0 0] 24 (0, 0)) := World.alloc_heap_new W _
theorem number1_old {f : Int} {mb bb nb : Nat} {c : List Int} (N : Int) (W : World) (h0 : 0 ≤ N) (h1 : N ≤ 1099511627776) (hlt : mb < W.heap.size ∧ bb < W.heap.size ∧ nb < W.heap.size) (hI : NumI f mb bb nb c W) (hN : N ∈ c) :
  Calls Tryz.prog 62 #[.int .i64 N, .pointer (some ⟨bb, 0, none⟩), .pointer (some ⟨nb, 0, none⟩)] W fun e W' => e = .returned (varV (f + (c.idxOf N : Nat))).val ∧ Below W.heap.size W W' := by
 have hB1 : Below W.heap.size W (W.alloc (.cells #[.int .i64 0, .int .i64 0, .string ⟨#[]⟩, .slice none 0 0] 24)) := (Below.refl _ W).alloc (Nat.le_refl _) _
 have hI1 := numI_keep hlt.1 hlt.2.1 hlt.2.2 hI hB1
 have hrun := numI_look hI1 h0 h1 hN
 obtain ⟨m0, -⟩ := one_cell hI1.box
 have hz := zbox_new W
 generalize hM : f + (c.idxOf N : Nat) = M at hrun ⊢
 obtain ⟨W1, hW1⟩ : ∃ W1, W.alloc (.cells #[.int .i64 0, .int .i64 0, .string ⟨#[]⟩, .slice none 0 0] 24) = W1 := ⟨_, rfl⟩
 have HW1 := hide hW1
 rw [hW1] at hB1 hz
 have HB1 := hide hB1
 have HZ := hide hz
 have hva := variable_any M W1
 rw [← hW1] at hva
 clear hI hI1 hN hM hB1 hz hW1 h0 h1 hlt
 simp only [TV.val, varV] at hva ⊢
 go_enter Tryz.func62, Tryz.ntmps62
 go_wp2_with fail
 refine hva.mono ?_
 clear hva
 rintro e W2 ⟨rfl, hb2⟩
 rw [unhide HW1] at hb2
 obtain ⟨⟨z0, z1, z2, z3⟩, y0, y1, y2, y3⟩ := zbox_kept ((hb2.block W.heap.size (Array.getElem?_eq_some_iff.1 (unhide HZ)).1).trans (unhide HZ))
 have hbf : Below W.heap.size W (set4 W2 W.heap.size 0 (varV M)) := set4_below ((unhide HB1).trans (hb2.mono (unhide HB1).size)) (Nat.le_refl _) 0 _
 have HBF := hide hbf
 clear hbf hb2
 go_wp2_with fail
 exact bodyPost_ret (v := (varV M).val) (by simp [results, Tryz.results62, go_sem, TV.val, varV, z0, z1, z2, z3]) rfl ⟨rfl, unhide HBF⟩
theorem number1_new {f : Int} {mb bb nb : Nat} {c : List Int} (hf0 : 0 ≤ f) (hf1 : f ≤ 1099511627776) (hne : mb ≠ bb ∧ mb ≠ nb ∧ bb ≠ nb) (N : Int) (W : World) (h0 : 0 ≤ N) (h1 : N ≤ 1099511627776) (hlt : mb < W.heap.size ∧ bb < W.heap.size ∧ nb < W.heap.size) (hI : NumI f mb bb nb c W) (hN : N ∉ c) :
  Calls Tryz.prog 62 #[.int .i64 N, .pointer (some ⟨bb, 0, none⟩), .pointer (some ⟨nb, 0, none⟩)] W fun e W' => e = .returned (varV (f + (c.length : Nat))).val ∧ GrB (fun k => k = mb ∨ k = nb) W.heap.size W W' ∧ NumI f mb bb nb (c ++ [N]) W' := by
 have hle := nodup_range hI.nodup hI.key
 have hB1 : Below W.heap.size W (W.alloc (.cells #[.int .i64 0, .int .i64 0, .string ⟨#[]⟩, .slice none 0 0] 24)) := (Below.refl _ W).alloc (Nat.le_refl _) _
 have hI1 := numI_keep hlt.1 hlt.2.1 hlt.2.2 hI hB1
 have hrun := numI_miss hI1 h0 h1 hN
 obtain ⟨m0, -⟩ := one_cell hI1.box
 obtain ⟨x0, -⟩ := one_cell hI1.next
 obtain ⟨W2, hup, hg2, hnx2, hI3⟩ := numI_put hI1 hf0 hf1 hne h0 h1 hN
 obtain ⟨x2, x2f⟩ := one_cell hnx2
 have hz := zbox_new W
 have hwr : IntKind.i64.wrap (f + (c.length : Nat) + 1) = f + (c.length : Nat) + 1 := by simp [IntKind.wrap, IntKind.bits, IntKind.signed]; omega
 have hz2 : W2.heap[W.heap.size]? = some (.cells #[.int .i64 0, .int .i64 0, .string ⟨#[]⟩, .slice none 0 0] 24 (0, 0)) := (hg2.block W.heap.size (by simp) (by simp; omega)).trans hz
 have hz3 : (W2.setCell ⟨nb, 0, none⟩ (.int .i64 (f + (c.length : Nat) + 1))).heap[W.heap.size]? = some (.cells #[.int .i64 0, .int .i64 0, .string ⟨#[]⟩, .slice none 0 0] 24 (0, 0)) := by rw [Below.heap_setCell _ _ _ _ (by simp; omega)]; exact hz2
 have hg3 : GrB (fun k => k = mb ∨ k = nb) W.heap.size W (W2.setCell ⟨nb, 0, none⟩ (.int .i64 (f + (c.length : Nat) + 1))) := by
  have hs := hg2.size
  have hs1 := hB1.size
  exact ⟨hg2.os, hg2.tape, hg2.output, by simp; omega, fun k hk hx => by
   rw [Below.heap_setCell _ _ _ _ (fun e => hx (.inr (by simpa using e))), hg2.block k (by omega) (by simpa using fun e => hx (.inl e)), hB1.block k hk]⟩
 have hva := variable_any (f + (c.length : Nat)) (W2.setCell ⟨nb, 0, none⟩ (.int .i64 (f + (c.length : Nat) + 1)))
 have HZ3 := hide hz3
 have HG3 := hide hg3
 have HI3 := hide hI3
 have HL := hide hlt
 clear hI hI1 hN hB1 hz hg2 hnx2 hI3 hz2 hz3 hg3 h0 h1 hlt hle
 simp only [TV.val, varV] at hva ⊢
 go_enter Tryz.func62, Tryz.ntmps62
 go_wp2_with fail
 refine hva.mono ?_
 clear hva
 rintro e W4 ⟨rfl, hb4⟩
 obtain ⟨W3, hW3⟩ : ∃ W3, W2.setCell ⟨nb, 0, none⟩ (.int .i64 (f + (c.length : Nat) + 1)) = W3 := ⟨_, rfl⟩
 rw [hW3] at hb4 HZ3 HG3 HI3
 have hw3 : W.heap.size < W3.heap.size := (Array.getElem?_eq_some_iff.1 (unhide HZ3)).1
 obtain ⟨⟨z0, z1, z2, z3⟩, y0, y1, y2, y3⟩ := zbox_kept ((hb4.block W.heap.size hw3).trans (unhide HZ3))
 have hgf : GrB (fun k => k = mb ∨ k = nb) W.heap.size W (set4 W4 W.heap.size 0 (varV (f + (c.length : Nat)))) := ((unhide HG3).trans (GrB.of_below (hb4.mono (by omega)))).set4 (Nat.le_refl _) 0 _
 have hIf : NumI f mb bb nb (c ++ [N]) (set4 W4 W.heap.size 0 (varV (f + (c.length : Nat)))) := numI_keep (unhide HL).1 (unhide HL).2.1 (unhide HL).2.2 (unhide HI3) (set4_below (hb4.mono (by omega)) (Nat.le_refl _) 0 _)
 have HF := hide (And.intro hgf hIf)
 clear hgf hIf hb4 hW3
 go_wp2_with fail
 exact bodyPost_ret (v := (varV (f + (c.length : Nat))).val) (by simp [results, Tryz.results62, go_sem, TV.val, varV, z0, z1, z2, z3]) rfl ⟨rfl, unhide HF⟩
theorem number1_becomes {f : Int} {mb bb nb lo : Nat} (hf0 : 0 ≤ f) (hf1 : f ≤ 1099511627776) (hne : mb ≠ bb ∧ mb ≠ nb ∧ bb ≠ nb) (hlo : mb < lo ∧ bb < lo ∧ nb < lo) :
  BecomesX 62 #[.pointer (some ⟨bb, 0, none⟩), .pointer (some ⟨nb, 0, none⟩)] (NumI f mb bb nb) (fun k => k = mb ∨ k = nb) lo stpN (renN f) 1 := fun N W c h0 h1 hW hI => by
 have hlt : mb < W.heap.size ∧ bb < W.heap.size ∧ nb < W.heap.size := ⟨by omega, by omega, by omega⟩
 by_cases hN : N ∈ c
 ·have e : stpN c N = c := if_pos hN
  rw [e]
  refine (number1_old N W h0 h1 hlt hI hN).mono fun e W' h => ?_
  exact ⟨_, h.1, GrB.of_below h.2, numI_keep hlt.1 hlt.2.1 hlt.2.2 hI h.2, varV_holds _ _ _⟩
 ·have e : stpN c N = c ++ [N] := if_neg hN
  rw [e]
  refine (number1_new hf0 hf1 hne N W h0 h1 hlt hI hN).mono fun e W' h => ?_
  refine ⟨_, h.1, h.2.1, h.2.2, ?_⟩
  have : renN f (c ++ [N]) N = [varNd (f + (c.length : Nat))] := by
   unfold renN
   rw [List.idxOf_append, if_neg hN]
   simp
  rw [this]
  exact varV_holds _ _ _
end Go.Proofs.YtlbobmebbllifaaGreat
