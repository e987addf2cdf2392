import Derived.Test.YtcdbbimhbijipaaDoorC
/- The contract of term.walk and of parts, where all parts of the term are of a kind. -/
namespace Go.Proofs.YtcdbbimhbijipaaDoor
open Go.RowKit Go.Shelf
attribute [local go_sem] Oper.semAt_some

set_option maxRecDepth 100000 in
set_option maxHeartbeats 1000000 in
/-- 'walk': all parts come, in their order; or a round has said 'no more'. -/
theorem walk_inP (Pt : TV → Prop) (F : Fence) (hd : F.depth = none) (h35 : F.fn 31) (hro : F.round = none) (l n₀ n₁ N : Nat) (J Jx : List TV → World → Prop) (Ba : Nat) (hJ : AbidesFrom Ba J)
    (hY : ∀ m pre x W, Pt x → J pre W → pre.length < N → YieldAt F m Tryd.prog l #[TV.val x] W fun e W' =>
      (e = .returned (.bool true) ∧ J (pre ++ [x]) W' ∧ Kp n₀ n₁ W W') ∨ (e = .returned (.bool false) ∧ Jx (pre ++ [x]) W')) :
    ∀ (n : Nat) (t : Tm n) (m : Nat) (pre : List TV) (W : World), (∀ x ∈ parts t, Pt x) → IsT n₀ W t → n₁ ≤ W.heap.size → J pre W → pre.length + (parts t).length ≤ N →
      CallsIn F m Tryd.prog 31 #[t.tv.val, .func (.yield l) #[] #[]] W fun e W' =>
        (e = .returned (.bool true) ∧ J (pre ++ parts t) W' ∧ Kp n₀ n₁ W W') ∨ (e = .returned (.bool false) ∧ ∃ q, q <+: parts t ∧ Jx (pre ++ q) W') := by
  intro n
  induction n with
  | zero => intro t; exact Empty.elim t
  | succ n ih =>
    intro t m pre W hPt ht hn hj0 hN
    obtain ⟨⟨k, kN, s, a, len, cap⟩, kids⟩ := t
    obtain ⟨hlen, hmax, hsm, hkids⟩ := ht
    simp only [Tm.tv, Tm.kids, parts] at hlen hmax hsm hkids hN hPt ⊢
    have hPx := hPt ⟨k, kN, s, a, len, cap⟩ (by simp)
    have hPk : ∀ u ∈ kids, ∀ x ∈ parts u, Pt x := fun u hu x hx => hPt x (List.mem_cons_of_mem _ (List.mem_flatMap.2 ⟨u, hu, hx⟩))
    have HPK := hide hPk
    clear hPt hPk
    simp only [List.length_cons] at hN
    have hl1 : len ≤ kids.length := by omega
    have hl2 : kids.length ≤ len := by omega
    clear hlen
    have hdd : ∀ k : Nat, (F.depth.isSome = true → 1 ≤ k) := fun k h => by rw [hd] at h; cases h
    have hallo : ∀ pre W o, J pre W → J pre (W.alloc o) := fun pre W o h => hJ pre W _ none h (World.grownBy_alloc W o none) (fun r e => by cases e)
    have hy1 := hY (m - 1) pre ⟨k, kN, s, a, len, cap⟩ (W.alloc (.cells #[.int .i64 k, .int .i64 kN, .string s, .slice a len cap] 24)) hPx (hallo _ _ _ hj0) (by omega)
    have HL := hide hallo
    clear hallo
    have HI := hide ih
    clear ih
    simp only [TV.val] at hy1 ⊢
    obtain ⟨fn, tmps, assign, body, hy, hR⟩ := hy1
    refine callsIn_of_wp Tryd.func31 rfl h35 ?_ hro
    simp only [Tryd.ntmps31, List.size_toArray, List.length_cons, List.length_nil, Nat.reduceAdd, Nat.reduceSub, Array.replicate_succ, Array.replicate_zero, List.push_toArray, List.append_toArray, List.nil_append, List.cons_append]
    gi_wp2
    refine hR.mono ?_
    clear hR hy
    rintro e W1 (⟨rfl, hJ1, hk1⟩ | ⟨rfl, hx1⟩)
    · have hz : W.heap.size < W1.heap.size := by have := hk1.size; simp at this; omega
      have hc : W1.cell? ⟨W.heap.size, 3, none⟩ = some (.slice a len cap) := by
        have hown := hk1.own hn (World.alloc_heap_new W (.cells #[.int .i64 k, .int .i64 kN, .string s, .slice a len cap] 24))
        simp [World.cell?, hown]
      have hkW : Kp n₀ n₁ W W1 := ((Kp.refl _ _ W).alloc _).trans hk1
      clear hk1
      gi_wp2
      clear hc
      gi_loopw [14] (fun i wr => ∃ j : Nat, j ≤ len ∧ i = .int .i64 j ∧ J (pre ++ ⟨k, kN, s, a, len, cap⟩ :: (kids.take j).flatMap parts) wr ∧ Kp n₀ n₁ W wr) (fun i _ => len - (intOf i).toNat)
      case atStart => exact ⟨0, Nat.zero_le _, rfl, by simpa using hJ1, hkW⟩
      case round =>
        obtain ⟨j, hj, rfl, hJj, hkj⟩ := hrel
        clear hz hkW hJ1
        by_cases hlt : j < len
        · obtain ⟨u, hu⟩ : ∃ u, kids[j]? = some u := ⟨kids[j]'(by omega), List.getElem?_eq_getElem (by omega)⟩
          have hne : kids ≠ [] := by rintro rfl; simp at hu
          obtain ⟨b, off, rfl, hb, hk⟩ := hkids.resolve_left hne
          obtain ⟨⟨c0, c1, c2, c3⟩, hT⟩ := hk j u hu
          replace c0 := hkj.cell hb c0
          replace c1 := hkj.cell hb c1
          replace c2 := hkj.cell hb c2
          replace c3 := hkj.cell hb c3
          have hpp := pre_parts kids j u hu
          have ihu := (unhide HI) u (m - 1) _ (wr.alloc (.cells #[.int .i64 u.tv.k, .int .i64 u.tv.N, .string u.tv.s, .slice u.tv.a u.tv.len u.tv.cap] 24)) ((unhide HPK) u (List.mem_of_getElem? hu)) ((hT.kp hkj).kp (n₁ := n₁) ((Kp.refl _ _ wr).alloc _)) (by have := hkj.size; simp; omega) ((unhide HL) _ _ _ hJj) (by simp only [List.length_append, List.length_cons]; omega)
          have HU := hide hu
          have HHT := hide hT
          have HK := hide hk
          clear hT hk hkids hu hne
          simp only [TV.val] at ihu
          gi_wp2_with ((try refine ⟨hdd _, ?_⟩); gi_at_call 31; refine ihu.mono ?_; clear ihu; rintro e W2 (⟨rfl, hJ2, hk2⟩ | ⟨rfl, q, hq, hx2⟩))
          · go_roundw
            case rel => exact ⟨j + 1, by omega, by go_num, by rw [take_parts kids j u (unhide HU)]; simpa using hJ2, hkj.trans (((Kp.refl _ _ wr).alloc _).trans hk2)⟩
            case measure => simp [intOf]; omega
          · go_ret
            refine .inr ⟨rfl, _ :: ((kids.take j).flatMap parts ++ q), ?_, by simpa using hx2⟩
            exact (List.cons_prefix_cons).2 ⟨rfl, pre_parts' kids j _ (unhide HU) q hq⟩
        · gi_wp2
          go_ret
          have : kids.take j = kids := List.take_of_length_le (by omega)
          rw [this] at hJj
          exact .inl ⟨rfl, hJj, hkj⟩
    · gi_wp2
      go_ret
      exact .inr ⟨rfl, [⟨k, kN, s, a, len, cap⟩], by simp, hx1⟩

set_option maxHeartbeats 1000000 in
theorem parts1_inP (Pt : TV → Prop) (F : Fence) (hd : F.depth = none) (n : Nat) (h34 : F.fn 30) (h35 : F.fn 31) (hro : F.round = none) (l Bt n₀ n₁ : Nat) {d : Nat} (t : Tm d) (J Jx : List TV → World → Prop) (Ba : Nat) (hJ : AbidesFrom Ba J)
    (hPt : ∀ x ∈ parts t, Pt x) (hY : ∀ pre x W, Pt x → J pre W → pre.length < (parts t).length → YieldAt F (n - 1) Tryd.prog l #[TV.val x] W fun e W' =>
      (e = .returned (.bool true) ∧ J (pre ++ [x]) W' ∧ Kp n₀ n₁ W W') ∨ (e = .returned (.bool false) ∧ Jx (pre ++ [x]) W'))
    (W : World) (hBt : BoxT W Bt t.tv) (hT : IsT n₀ W t) (hn : n₁ ≤ W.heap.size) (h0 : J [] W) :
    CallsIn F n Tryd.prog 30 #[.func (.yield l) #[] #[], .pointer (some ⟨Bt, 0, none⟩)] W fun e W' => (∃ v, e = .returned v) ∧
      ((∃ ys, ys = parts t ∧ J ys W') ∨ (∃ pre, pre <+: parts t ∧ Jx pre W')) := by
  have hdd : ∀ k : Nat, (F.depth.isSome = true → 1 ≤ k) := fun k h => by rw [hd] at h; cases h
  have hp := walk_inP Pt F hd h35 hro l n₀ n₁ (parts t).length J Jx Ba hJ (fun m pre x W hp hj hl => YieldAt.anyDepth hd m (hY pre x W hp hj hl)) d t (n - 1) [] W hPt hT hn h0 (by simp)
  simp only [TV.val] at hp
  have c0 := hBt.c0
  have c1 := hBt.c1
  have c2 := hBt.c2
  have c3 := hBt.c3
  clear hY
  refine callsIn_of_wp Tryd.func30 rfl h34 ?_ hro
  simp only [Tryd.ntmps30, List.size_toArray, List.length_cons, List.length_nil, Nat.reduceAdd, Nat.reduceSub, Array.replicate_succ, Array.replicate_zero, List.push_toArray, List.append_toArray, List.nil_append, List.cons_append]
  gi_wp2_with ((try refine ⟨hdd _, ?_⟩); gi_at_call 31; refine hp.mono ?_; clear hp; rintro e W1 (⟨rfl, hJ1, _⟩ | ⟨rfl, q, hq, hx⟩))
  · go_end0
    exact ⟨⟨_, rfl⟩, .inl ⟨_, rfl, by simpa using hJ1⟩⟩
  · go_end0
    exact ⟨⟨_, rfl⟩, .inr ⟨q, hq, by simpa using hx⟩⟩

/-- The parts of a term that all are of a kind, handed over as such. -/
theorem parts_stopsP (Pt : TV → Prop) (F : Fence) (hd : F.depth = none) (n : Nat) (h34 : F.fn 30) (h35 : F.fn 31) (hro : F.round = none) (Bt n₀ n₁ : Nat) {d : Nat} (t : Tm d) (w : World)
    (hPt : ∀ x ∈ parts t, Pt x) (hc : BoxT w Bt t.tv) (hT : IsT n₀ w t) (hn₀ : n₀ ≤ w.heap.size) (hn₁ : n₁ ≤ w.heap.size) :
    SeqStopsK F n Tryd.prog 30 #[.pointer (some ⟨Bt, 0, none⟩)] (fun x : { x : TV // Pt x } => #[TV.val x.1]) (Kp n₀ n₁) (fun ys => ys.map Subtype.val = parts t) (fun pre => pre.map Subtype.val <+: parts t) (parts t).length w := fun l J Jx W hW hJ hJx hY h0 => by
  have h := parts1_inP Pt F hd n h34 h35 hro l Bt n₀ n₁ t (fun ys W => ∃ zs : List { x : TV // Pt x }, zs.map Subtype.val = ys ∧ J zs W) (fun ys W => ∃ zs : List { x : TV // Pt x }, zs.map Subtype.val = ys ∧ Jx zs W) _ (fun s A B row hs hg hr => by obtain ⟨zs, e, hz⟩ := hs; exact ⟨zs, e, hJ zs A B row hz hg hr⟩) hPt
    (fun pre x W hp hj hl => by
      obtain ⟨zs, rfl, hz⟩ := hj
      refine (hY zs ⟨x, hp⟩ W hz (by simpa using hl)).mono fun e W' h => ?_
      rcases h with ⟨h1, h2, h3⟩ | ⟨h1, h2⟩
      · exact .inl ⟨h1, ⟨zs ++ [⟨x, hp⟩], by simp, h2⟩, h3⟩
      · exact .inr ⟨h1, ⟨zs ++ [⟨x, hp⟩], by simp, h2⟩⟩)
    W ((hW.block Bt hc.lt).trans hc) (hT.below (hW.mono hn₀)) (Nat.le_trans hn₁ hW.size) ⟨[], rfl, h0⟩
  refine h.mono fun e W' h => ?_
  obtain ⟨h1, h2⟩ := h
  refine ⟨h1, ?_⟩
  rcases h2 with ⟨ys, rfl, zs, e, hz⟩ | ⟨pre, hp, zs, e, hz⟩
  · exact .inl ⟨zs, e, hz⟩
  · exact .inr ⟨zs, by show zs.map Subtype.val <+: parts t; rw [e]; exact hp, hz⟩
end Go.Proofs.YtcdbbimhbijipaaDoor

