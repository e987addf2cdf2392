import Derived.Lib.ItoaNum
import Derived.Test.YtiigkiemkhdclaaGreatDoorNms
import Derived.Test.YtiigkiemkhdclaaGreatDoorIntLay
import Derived.Lib.AppendIntMem
import Derived.Lib.ItoaLen
import Derived.Lib.Slices
import Derived.Lib.BufferKept
import Derived.OwnWalk
import Derived.WalkKit
import Derived.BigCall
import Derived.Test.YtiigkiemkhdclaaGreatDoorC
/- Plain mathematics of the keys that General writes: unlike pairs of terms have unlike keys. -/
namespace Go.Proofs.YtiigkiemkhdclaaGreatDoor
open Go.RowKit Go.Shelf Go.Maps

def digVal (l : List UInt8) : Nat := l.foldl (fun a d => a * 10 + (d.toNat - 48)) 0
theorem dig_toNat {k : Nat} (h : k < 10) : (UInt8.ofNat (48 + k)).toNat = 48 + k := by
  simp [UInt8.toNat_ofNat']; omega
theorem dec_val : ∀ (u : Nat), digVal (Lib.decDigits u) = u ∧ ∀ d ∈ Lib.decDigits u, 48 ≤ d.toNat ∧ d.toNat ≤ 57 := by
  intro u
  induction u using Nat.strongRecOn with
  | ind u ih =>
    rw [Lib.decDigits]
    split
    · rename_i h
      refine ⟨?_, fun d hd => ?_⟩
      · simp only [digVal, List.foldl_cons, List.foldl_nil]
        rw [dig_toNat h]; omega
      · simp only [List.mem_singleton] at hd
        subst hd
        rw [dig_toNat h]; omega
    · rename_i h
      obtain ⟨h1, h2⟩ := ih (u / 10) (by omega)
      have hm : u % 10 < 10 := by omega
      refine ⟨?_, fun d hd => ?_⟩
      · unfold digVal at h1 ⊢
        rw [List.foldl_append, h1]
        simp only [List.foldl_cons, List.foldl_nil]
        rw [dig_toNat hm]; omega
      · rcases List.mem_append.1 hd with hd | hd
        · exact h2 d hd
        · simp only [List.mem_singleton] at hd
          subst hd
          rw [dig_toNat hm]; omega
theorem dec_ne (u : Nat) : Lib.decDigits u ≠ [] := by
  rw [Lib.decDigits]
  split <;> simp
theorem itoa_blank (i : Int) : ∀ d ∈ Lib.itoa i, d ≠ 32 := by
  intro d hd e
  subst e
  unfold Lib.itoa at hd
  split at hd
  · rcases List.mem_cons.1 hd with h | h
    · exact absurd h (by decide)
    · have := ((dec_val _).2 _ h).1; exact absurd this (by decide)
  · have := ((dec_val _).2 _ hd).1; exact absurd this (by decide)
theorem itoa_inj {i j : Int} (h : Lib.itoa i = Lib.itoa j) : i = j := by
  have first : ∀ {u : Nat} {l : List UInt8}, Lib.decDigits u ≠ 45 :: l := fun {u l} e => by
    have h1 := ((dec_val u).2 45 (by rw [e]; simp)).1
    exact absurd h1 (by decide)
  unfold Lib.itoa at h
  by_cases hi : i < 0 <;> by_cases hj : j < 0
  · rw [if_pos hi, if_pos hj, List.cons.injEq] at h
    have h1 := congrArg digVal h.2
    rw [(dec_val _).1, (dec_val _).1] at h1
    omega
  · rw [if_pos hi, if_neg hj] at h
    exact (first h.symm).elim
  · rw [if_neg hi, if_pos hj] at h
    exact (first h).elim
  · rw [if_neg hi, if_neg hj] at h
    have h1 := congrArg digVal h
    rw [(dec_val _).1, (dec_val _).1] at h1
    omega
theorem split_blank : ∀ {A B r r' : List UInt8}, (∀ d ∈ A, d ≠ 32) → (∀ d ∈ B, d ≠ 32) → A ++ 32 :: r = B ++ 32 :: r' → A = B ∧ r = r'
  | [], [], _, _, _, _, h => by simpa using h
  | [], b :: B, _, _, _, hB, h => by
    simp only [List.nil_append, List.cons_append, List.cons.injEq] at h
    exact (hB b (by simp) h.1.symm).elim
  | a :: A, [], _, _, hA, _, h => by
    simp only [List.nil_append, List.cons_append, List.cons.injEq] at h
    exact (hA a (by simp) h.1).elim
  | a :: A, b :: B, r, r', hA, hB, h => by
    simp only [List.cons_append, List.cons.injEq] at h
    obtain ⟨h1, h2⟩ := split_blank (fun d hd => hA d (by simp [hd])) (fun d hd => hB d (by simp [hd])) h.2
    exact ⟨by rw [h.1, h1], h2⟩
theorem num_split {i j : Int} {r r' : List UInt8} (h : Lib.itoa i ++ 32 :: r = Lib.itoa j ++ 32 :: r') : i = j ∧ r = r' := by
  obtain ⟨h1, h2⟩ := split_blank (itoa_blank i) (itoa_blank j) h
  exact ⟨itoa_inj h1, h2⟩

/-- A part, written. -/
def encN (x : Nd) : List UInt8 := Lib.itoa x.1 ++ 32 :: (Lib.itoa x.2.1 ++ 32 :: (Lib.itoa (x.2.2.2 : Nat) ++ 32 :: (Lib.itoa (x.2.2.1.length : Nat) ++ 32 :: x.2.2.1)))
def enc (c : List Nd) : List UInt8 := c.flatMap encN
theorem encN_split {x y : Nd} {r r' : List UInt8} (h : encN x ++ r = encN y ++ r') : x = y ∧ r = r' := by
  unfold encN at h
  simp only [List.append_assoc, List.cons_append] at h
  obtain ⟨h1, h⟩ := num_split h
  obtain ⟨h2, h⟩ := num_split h
  obtain ⟨h3, h⟩ := num_split h
  obtain ⟨h4, h⟩ := num_split h
  have h4' : x.2.2.1.length = y.2.2.1.length := by omega
  have h3' : x.2.2.2 = y.2.2.2 := by omega
  obtain ⟨h5, h6⟩ := List.append_inj h h4'
  refine ⟨?_, h6⟩
  obtain ⟨a, b, c, d⟩ := x
  obtain ⟨a', b', c', d'⟩ := y
  simp only at h1 h2 h3' h5
  rw [h1, h2, h3', h5]
theorem enc_split : ∀ (c c' : List Nd) (k : Nat) {r r' : List UInt8}, runW k c = some [] → runW k c' = some [] → enc c ++ r = enc c' ++ r' → c = c' ∧ r = r'
  | c, c', 0, r, r', h, h', e => by
    simp only [runW, Option.some.injEq] at h h'
    subst h h'
    exact ⟨rfl, by simpa [enc] using e⟩
  | [], _, k + 1, _, _, h, _, _ => by simp [runW] at h
  | _ :: _, [], k + 1, _, _, _, h, _ => by simp [runW] at h
  | x :: c, y :: c', k + 1, r, r', h, h', e => by
    simp only [enc, List.flatMap_cons, List.append_assoc] at e
    obtain ⟨rfl, e2⟩ := encN_split e
    simp only [runW] at h h'
    obtain ⟨rfl, e3⟩ := enc_split c c' _ h h' e2
    exact ⟨rfl, e3⟩
def keyP (p : Pr) : List UInt8 := enc p.1 ++ enc p.2
/-- Unlike pairs have unlike keys. -/
theorem keyP_inj {p q : Pr} (h1 : Word p.1) (h2 : Word p.2) (h3 : Word q.1) (h4 : Word q.2) (h : keyP p = keyP q) : p = q := by
  unfold keyP at h
  obtain ⟨e1, e2⟩ := enc_split p.1 q.1 1 h1 h3 h
  have e3 : enc p.2 ++ [] = enc q.2 ++ [] := by simpa using e2
  obtain ⟨e4, _⟩ := enc_split p.2 q.2 1 h2 h4 e3
  exact Prod.ext e1 e4
end Go.Proofs.YtiigkiemkhdclaaGreatDoor

/- The contract of term.appendNumber: a number's decimals and a blank, behind what is there. -/
namespace Go.Proofs.YtiigkiemkhdclaaGreatDoor
open Go.RowKit Go.Shelf

theorem Tryz.infoByte : (Tryz.prog.info? 5).map (fun i => (i.zero, i.size, i.bytes)) = some (some (.int .u8 0), 1, 1) := by kernel_rfl
def Tab (B : Nat) (w : World) : Prop := Lib.TabBelow Tryz.prog B w "internal/strconv.uint64pow10" .u64 Lib.pow10Tab
theorem Tab.on {B : Nat} {w w' : World} (h : Tab B w) (hb : Below B w w') : Tab B w' := Lib.TabBelow.on h hb
/-- A row of bytes of the call's own. -/
def Bytes (B : Nat) (w : World) (v : Value) (l : List UInt8) : Prop := w.ownsRow B 5 1 v l.length (Lib.byteCells l)
/-- Blocks of other kinds than bytes are kept. -/
abbrev Others (w w' : World) : Prop := Lib.OthersKept 5 none w w'

theorem others_grow {w w' : World} {B : Nat} {v : Value} {n : Nat} {xs : List Value} (h : w.ownsRow B 5 1 v n xs) (hg : w.grownBy w' v.ownBlock) : Others w w' := fun k o hk _ ho => by
  have hlt := (Array.getElem?_eq_some_iff.1 hk).1
  by_cases e : v.ownBlock = some k
  · rcases h.2 with ⟨rfl, _⟩ | ⟨g, cap, cur, rfl, _, hb, _⟩
    · cases e
    · have : g = k := by simpa [Value.ownBlock] using e
      subst this
      rw [hb] at hk
      simp at hk
      exact (ho _ _ hk.symm).elim
  · exact (hg.block k hlt (fun h' => e h'.symm)).trans hk

set_option maxHeartbeats 1000000 in
set_option maxRecDepth 100000 in
theorem appendNumber_any (B : Nat) (i : Int) (h0 : -9223372036854775808 ≤ i) (h1 : i ≤ 9223372036854775807) (sv : Value) (l : List UInt8) (w : World) (hown : Bytes B w sv l) (hBw : B ≤ w.heap.size) (hlim : l.length ≤ 70368744177664) (htab : Tab B w) :
    Calls Tryz.prog 91 #[sv, .int .i64 i] w fun e w' => ∃ v', e = .returned v' ∧ Bytes B w' v' (l ++ (Lib.itoa i ++ [32])) ∧ Below B w w' ∧ Others w w' := by
  obtain ⟨i0, hi, hz0, hz1, hz2⟩ := info_parts Tryz.infoByte
  have la := Lib.itoa_length_le i h0 h1
  have hai := Any.strconv_AppendInt_10 appInt B l.length i h0 h1 sv (Lib.byteCells l) w hown hBw (by omega) htab
  have hai' : Calls Tryz.prog 103 #[sv, .int .i64 i, .int .i64 10] w fun e w' => ∃ v', e = .returned v' ∧ w'.ownsRow B 5 1 v' (l.length + (Lib.itoa i).length) (Lib.byteCells l ++ Lib.byteCells (Lib.itoa i)) ∧ Below B w w' ∧ Others w w' := hai
  clear hai hown htab
  go_enter Tryz.func91, Tryz.ntmps91
  go_wp2_with fail
  refine hai'.mono ?_
  clear hai'
  rintro e w1 ⟨v1, rfl, hown1, hnx1, hot1⟩
  have hw1 := hnx1.size
  go_wp2_with (at_builtin; go_must (refine wpList_append_own _ rfl _ _ 94 rfl B 5 i0 (.int .u8 0) 1 1 Tryz.underlying94 hi hz0 hz1 hz2 rfl (by decide) _ _ _ rfl (hown1.alloc _) ⟨w1.heap.size, 0, none⟩ 1 1 [Value.int .u8 32] rfl rfl (by intro j u' hj; match j, hj with | 0, hj => simp at hj; subst hj; simp [Addr.add]) (by intro u' hu'; simp at hu'; subst hu'; rfl) (by unfold maxLen; omega) (by omega) (by simp; omega) ?_; intro v2 w2 hown2 hgrow hnil2))
  have hot2 : Others w w2 := (hot1.alloc _).trans (others_grow (hown1.alloc _) hgrow)
  have hnx2 : Below B w w2 := (hnx1.alloc (by omega) _).grown hgrow (by simp; omega) (fun k hk => (hown1.lt k hk).1)
  have hfin : Bytes B w2 v2 (l ++ (Lib.itoa i ++ [32])) := by
    unfold Bytes
    have e1 : (l ++ (Lib.itoa i ++ [32])).length = l.length + (Lib.itoa i).length + 1 := by simp; omega
    have e2 : Lib.byteCells (l ++ (Lib.itoa i ++ [32])) = Lib.byteCells l ++ Lib.byteCells (Lib.itoa i) ++ [Value.int .u8 32] := by simp [Lib.byteCells]
    rw [e1, e2]
    exact hown2
  have HF := hide (And.intro hfin (And.intro hnx2 hot2))
  clear hfin hnx2 hot2 hown2 hgrow hnil2 hown1
  go_wp2_with fail
  exact bodyPost_ret (v := v2) (by simp [results, Tryz.results91, go_sem]) rfl ⟨v2, rfl, unhide HF⟩
end Go.Proofs.YtiigkiemkhdclaaGreatDoor

/- The contract of term.walk and of parts, where all parts of the term are of a kind. -/
namespace Go.Proofs.YtiigkiemkhdclaaGreatDoor
open Go.RowKit Go.Shelf
attribute [local go_sem] Oper.semAt_some

set_option maxRecDepth 100000 in
set_option maxHeartbeats 1000000 in
/-- 'walk': all parts come, in their order; or a round has said 'no more'. -/
theorem walk_inP (Pt : TV → Prop) (F : Fence) (hd : F.depth = none) (h35 : F.fn 74) (hro : F.round = none) (l n₀ n₁ N : Nat) (J Jx : List TV → World → Prop) (Ba : Nat) (hJ : AbidesFrom Ba J)
    (hY : ∀ m pre x W, Pt x → J pre W → pre.length < N → YieldAt F m Tryz.prog l #[TV.val x] W fun e W' =>
      (e = .returned (.bool true) ∧ J (pre ++ [x]) W' ∧ Kp n₀ n₁ W W') ∨ (e = .returned (.bool false) ∧ Jx (pre ++ [x]) W')) :
    ∀ (n : Nat) (t : Tm n) (m : Nat) (pre : List TV) (W : World), (∀ x ∈ parts t, Pt x) → IsT n₀ W t → n₁ ≤ W.heap.size → J pre W → pre.length + (parts t).length ≤ N →
      CallsIn F m Tryz.prog 74 #[t.tv.val, .func (.yield l) #[] #[]] W fun e W' =>
        (e = .returned (.bool true) ∧ J (pre ++ parts t) W' ∧ Kp n₀ n₁ W W') ∨ (e = .returned (.bool false) ∧ ∃ q, q <+: parts t ∧ Jx (pre ++ q) W') := by
  intro n
  induction n with
  | zero => intro t; exact Empty.elim t
  | succ n ih =>
    intro t m pre W hPt ht hn hj0 hN
    obtain ⟨⟨k, kN, s, a, len, cap⟩, kids⟩ := t
    obtain ⟨hlen, hmax, hsm, hkids⟩ := ht
    simp only [Tm.tv, Tm.kids, parts] at hlen hmax hsm hkids hN hPt ⊢
    have hPx := hPt ⟨k, kN, s, a, len, cap⟩ (by simp)
    have hPk : ∀ u ∈ kids, ∀ x ∈ parts u, Pt x := fun u hu x hx => hPt x (List.mem_cons_of_mem _ (List.mem_flatMap.2 ⟨u, hu, hx⟩))
    have HPK := hide hPk
    clear hPt hPk
    simp only [List.length_cons] at hN
    have hl1 : len ≤ kids.length := by omega
    have hl2 : kids.length ≤ len := by omega
    clear hlen
    have hdd : ∀ k : Nat, (F.depth.isSome = true → 1 ≤ k) := fun k h => by rw [hd] at h; cases h
    have hallo : ∀ pre W o, J pre W → J pre (W.alloc o) := fun pre W o h => hJ pre W _ none h (World.grownBy_alloc W o none) (fun r e => by cases e)
    have hy1 := hY (m - 1) pre ⟨k, kN, s, a, len, cap⟩ (W.alloc (.cells #[.int .i64 k, .int .i64 kN, .string s, .slice a len cap] 24)) hPx (hallo _ _ _ hj0) (by omega)
    have HL := hide hallo
    clear hallo
    have HI := hide ih
    clear ih
    simp only [TV.val] at hy1 ⊢
    obtain ⟨fn, tmps, assign, body, hy, hR⟩ := hy1
    refine callsIn_of_wp Tryz.func74 rfl h35 ?_ hro
    simp only [Tryz.ntmps74, List.size_toArray, List.length_cons, List.length_nil, Nat.reduceAdd, Nat.reduceSub, Array.replicate_succ, Array.replicate_zero, List.push_toArray, List.append_toArray, List.nil_append, List.cons_append]
    gi_wp2
    refine hR.mono ?_
    clear hR hy
    rintro e W1 (⟨rfl, hJ1, hk1⟩ | ⟨rfl, hx1⟩)
    · have hz : W.heap.size < W1.heap.size := by have := hk1.size; simp at this; omega
      have hc : W1.cell? ⟨W.heap.size, 3, none⟩ = some (.slice a len cap) := by
        have hown := hk1.own hn (World.alloc_heap_new W (.cells #[.int .i64 k, .int .i64 kN, .string s, .slice a len cap] 24))
        simp [World.cell?, hown]
      have hkW : Kp n₀ n₁ W W1 := ((Kp.refl _ _ W).alloc _).trans hk1
      clear hk1
      gi_wp2
      clear hc
      gi_loopw [14] (fun i wr => ∃ j : Nat, j ≤ len ∧ i = .int .i64 j ∧ J (pre ++ ⟨k, kN, s, a, len, cap⟩ :: (kids.take j).flatMap parts) wr ∧ Kp n₀ n₁ W wr) (fun i _ => len - (intOf i).toNat)
      case atStart => exact ⟨0, Nat.zero_le _, rfl, by simpa using hJ1, hkW⟩
      case round =>
        obtain ⟨j, hj, rfl, hJj, hkj⟩ := hrel
        clear hz hkW hJ1
        by_cases hlt : j < len
        · obtain ⟨u, hu⟩ : ∃ u, kids[j]? = some u := ⟨kids[j]'(by omega), List.getElem?_eq_getElem (by omega)⟩
          have hne : kids ≠ [] := by rintro rfl; simp at hu
          obtain ⟨b, off, rfl, hb, hk⟩ := hkids.resolve_left hne
          obtain ⟨⟨c0, c1, c2, c3⟩, hT⟩ := hk j u hu
          replace c0 := hkj.cell hb c0
          replace c1 := hkj.cell hb c1
          replace c2 := hkj.cell hb c2
          replace c3 := hkj.cell hb c3
          have hpp := pre_parts kids j u hu
          have ihu := (unhide HI) u (m - 1) _ (wr.alloc (.cells #[.int .i64 u.tv.k, .int .i64 u.tv.N, .string u.tv.s, .slice u.tv.a u.tv.len u.tv.cap] 24)) ((unhide HPK) u (List.mem_of_getElem? hu)) ((hT.kp hkj).kp (n₁ := n₁) ((Kp.refl _ _ wr).alloc _)) (by have := hkj.size; simp; omega) ((unhide HL) _ _ _ hJj) (by simp only [List.length_append, List.length_cons]; omega)
          have HU := hide hu
          have HHT := hide hT
          have HK := hide hk
          clear hT hk hkids hu hne
          simp only [TV.val] at ihu
          gi_wp2_with ((try refine ⟨hdd _, ?_⟩); gi_at_call 74; refine ihu.mono ?_; clear ihu; rintro e W2 (⟨rfl, hJ2, hk2⟩ | ⟨rfl, q, hq, hx2⟩))
          · go_roundw
            case rel => exact ⟨j + 1, by omega, by go_num, by rw [take_parts kids j u (unhide HU)]; simpa using hJ2, hkj.trans (((Kp.refl _ _ wr).alloc _).trans hk2)⟩
            case measure => simp [intOf]; omega
          · go_ret
            refine .inr ⟨rfl, _ :: ((kids.take j).flatMap parts ++ q), ?_, by simpa using hx2⟩
            exact (List.cons_prefix_cons).2 ⟨rfl, pre_parts' kids j _ (unhide HU) q hq⟩
        · gi_wp2
          go_ret
          have : kids.take j = kids := List.take_of_length_le (by omega)
          rw [this] at hJj
          exact .inl ⟨rfl, hJj, hkj⟩
    · gi_wp2
      go_ret
      exact .inr ⟨rfl, [⟨k, kN, s, a, len, cap⟩], by simp, hx1⟩

set_option maxHeartbeats 1000000 in
theorem parts1_inP (Pt : TV → Prop) (F : Fence) (hd : F.depth = none) (n : Nat) (h34 : F.fn 73) (h35 : F.fn 74) (hro : F.round = none) (l Bt n₀ n₁ : Nat) {d : Nat} (t : Tm d) (J Jx : List TV → World → Prop) (Ba : Nat) (hJ : AbidesFrom Ba J)
    (hPt : ∀ x ∈ parts t, Pt x) (hY : ∀ pre x W, Pt x → J pre W → pre.length < (parts t).length → YieldAt F (n - 1) Tryz.prog l #[TV.val x] W fun e W' =>
      (e = .returned (.bool true) ∧ J (pre ++ [x]) W' ∧ Kp n₀ n₁ W W') ∨ (e = .returned (.bool false) ∧ Jx (pre ++ [x]) W'))
    (W : World) (hBt : BoxT W Bt t.tv) (hT : IsT n₀ W t) (hn : n₁ ≤ W.heap.size) (h0 : J [] W) :
    CallsIn F n Tryz.prog 73 #[.func (.yield l) #[] #[], .pointer (some ⟨Bt, 0, none⟩)] W fun e W' => (∃ v, e = .returned v) ∧
      ((∃ ys, ys = parts t ∧ J ys W') ∨ (∃ pre, pre <+: parts t ∧ Jx pre W')) := by
  have hdd : ∀ k : Nat, (F.depth.isSome = true → 1 ≤ k) := fun k h => by rw [hd] at h; cases h
  have hp := walk_inP Pt F hd h35 hro l n₀ n₁ (parts t).length J Jx Ba hJ (fun m pre x W hp hj hl => YieldAt.anyDepth hd m (hY pre x W hp hj hl)) d t (n - 1) [] W hPt hT hn h0 (by simp)
  simp only [TV.val] at hp
  have c0 := hBt.c0
  have c1 := hBt.c1
  have c2 := hBt.c2
  have c3 := hBt.c3
  clear hY
  refine callsIn_of_wp Tryz.func73 rfl h34 ?_ hro
  simp only [Tryz.ntmps73, List.size_toArray, List.length_cons, List.length_nil, Nat.reduceAdd, Nat.reduceSub, Array.replicate_succ, Array.replicate_zero, List.push_toArray, List.append_toArray, List.nil_append, List.cons_append]
  gi_wp2_with ((try refine ⟨hdd _, ?_⟩); gi_at_call 74; refine hp.mono ?_; clear hp; rintro e W1 (⟨rfl, hJ1, _⟩ | ⟨rfl, q, hq, hx⟩))
  · go_end0
    exact ⟨⟨_, rfl⟩, .inl ⟨_, rfl, by simpa using hJ1⟩⟩
  · go_end0
    exact ⟨⟨_, rfl⟩, .inr ⟨q, hq, by simpa using hx⟩⟩

/-- The parts of a term that all are of a kind, handed over as such. -/
theorem parts_stopsP (Pt : TV → Prop) (F : Fence) (hd : F.depth = none) (n : Nat) (h34 : F.fn 73) (h35 : F.fn 74) (hro : F.round = none) (Bt n₀ n₁ : Nat) {d : Nat} (t : Tm d) (w : World)
    (hPt : ∀ x ∈ parts t, Pt x) (hc : BoxT w Bt t.tv) (hT : IsT n₀ w t) (hn₀ : n₀ ≤ w.heap.size) (hn₁ : n₁ ≤ w.heap.size) :
    SeqStopsK F n Tryz.prog 73 #[.pointer (some ⟨Bt, 0, none⟩)] (fun x : { x : TV // Pt x } => #[TV.val x.1]) (Kp n₀ n₁) (fun ys => ys.map Subtype.val = parts t) (fun pre => pre.map Subtype.val <+: parts t) (parts t).length w := fun l J Jx W hW hJ hJx hY h0 => by
  have h := parts1_inP Pt F hd n h34 h35 hro l Bt n₀ n₁ t (fun ys W => ∃ zs : List { x : TV // Pt x }, zs.map Subtype.val = ys ∧ J zs W) (fun ys W => ∃ zs : List { x : TV // Pt x }, zs.map Subtype.val = ys ∧ Jx zs W) _ (fun s A B row hs hg hr => by obtain ⟨zs, e, hz⟩ := hs; exact ⟨zs, e, hJ zs A B row hz hg hr⟩) hPt
    (fun pre x W hp hj hl => by
      obtain ⟨zs, rfl, hz⟩ := hj
      refine (hY zs ⟨x, hp⟩ W hz (by simpa using hl)).mono fun e W' h => ?_
      rcases h with ⟨h1, h2, h3⟩ | ⟨h1, h2⟩
      · exact .inl ⟨h1, ⟨zs ++ [⟨x, hp⟩], by simp, h2⟩, h3⟩
      · exact .inr ⟨h1, ⟨zs ++ [⟨x, hp⟩], by simp, h2⟩⟩)
    W ((hW.block Bt hc.lt).trans hc) (hT.below (hW.mono hn₀)) (Nat.le_trans hn₁ hW.size) ⟨[], rfl, h0⟩
  refine h.mono fun e W' h => ?_
  obtain ⟨h1, h2⟩ := h
  refine ⟨h1, ?_⟩
  rcases h2 with ⟨ys, rfl, zs, e, hz⟩ | ⟨pre, hp, zs, e, hz⟩
  · exact .inl ⟨zs, e, hz⟩
  · exact .inr ⟨zs, by show zs.map Subtype.val <+: parts t; rw [e]; exact hp, hz⟩
end Go.Proofs.YtiigkiemkhdclaaGreatDoor

