import Derived.Test.YtlbobmebbllifaaGreatBmAs
import Derived.Test.YtlbobmebbllifaaGreatGs
import Derived.Test.YtlbobmebbllifaaGreatOs
import Derived.ChangeSlices
import Derived.OpenShut
/- Spoiling what is held, and Same of what is held. -/
namespace Go.Proofs.YtlbobmebbllifaaGreat
open Go.RowKit Go.Shelf Go.Maps
def WideN (c : List Nd) : Prop := ∀ y ∈ c, y.2.2.2 ≤ 50
theorem wideN_ok {c : List Nd} (h : c.all okM = true) : WideN c := fun y hy => by
 have h1 := List.all_eq_true.1 h y hy
 obtain ⟨k, N, s, l⟩ := y
 show l ≤ 50
 simp only [okM] at h1
 split at h1
 ·simp at h1; omega
 ·split at h1
  ·simp at h1; omega
  ·split at h1
   ·simp at h1; omega
   ·split at h1
    ·simp at h1; omega
    ·cases h1
theorem HoldsL.nofix {D : Nat} {S : Nat → Prop} {V : World} {v : Value} {c : List Nd} (h : HoldsL D S V v c) : HoldsL D (fun k => S k ∧ k < V.heap.size ∧ NoFix V k) V v c := fun m hm hl => by
 obtain ⟨t, h1, h2, ⟨h3, h4⟩, h5⟩ := h m hm hl
 exact ⟨t, h1, h2, ⟨blk_of h2 fun k hk => ⟨blk_in h2 h3 k hk, h2.blks_lt k hk, by
  obtain ⟨arr, ha⟩ := h4.kind k hk
  intro c' t' o' hc
  rw [ha] at hc
  cases hc
  unfold FixK
  decide⟩, h4⟩, h5⟩
def CanSp (S : Nat → Prop) (V : World) (v : Value) : Prop := ∃ (D : Nat) (t : Tm D), v = t.tv.val ∧ IsT V.heap.size V t ∧ SpT S V t
theorem HoldsL.can {D : Nat} {S : Nat → Prop} {V : World} {v : Value} {c : List Nd} (h : HoldsL D S V v c) (hD : D ≤ 2199023255552) (hc : WideN c) : CanSp S V v := by
 obtain ⟨t, h1, h2, ⟨h3, h4⟩, h5⟩ := h D (Nat.le_refl _) hD
 exact ⟨D, t, h1, h2, (spT_own h2 h4 (by rw [h5]; exact hc)).wide fun k hk => blk_in h2 h3 k hk⟩
theorem CanSp.spoilt {S : Nat → Prop} {V V' : World} {v : Value} (h : CanSp S V v) (g : Spoils S V V') : CanSp S V' v := by
 obtain ⟨D, t, h1, h2, h3⟩ := h
 obtain ⟨t', k1, k2, k3⟩ := SpT.spoilt g h3 h2
 exact ⟨D, t', by rw [h1, k1], k3, k2⟩
theorem CanSp.kept {S : Nat → Prop} {V V' : World} {v : Value} (h : CanSp S V v) (hs : ∀ k, S k → V'.heap[k]? = V.heap[k]?) (hz : V.heap.size ≤ V'.heap.size) : CanSp S V' v := by
 obtain ⟨D, t, h1, h2, h3⟩ := h
 exact ⟨D, t, h1, (h2.fromS hs h3.blk).mono hz, h3.kept hs⟩
theorem CanSp.call {S : Nat → Prop} {V : World} {v : Value} (h : CanSp S V v) (hS : ∀ k, S k → k < V.heap.size) : Calls Tryz.prog 10 #[v] V fun e V' => e = .returned (.tuple #[]) ∧ Spoils S V V' := by
 obtain ⟨D, t, rfl, h2, h3⟩ := h
 exact spoilTerm_sp S D t V hS h3 h2
theorem same_ll {D D' : Nat} {S S' : Nat → Prop} {V : World} {x y : TV} {c : List Nd} (h : HoldsS D S V x.val c) (h' : HoldsS D' S' V y.val c) (hD : D ≤ 2199023255552) (hD' : D' ≤ 2199023255552) : Calls Tryz.prog 12 #[x.val, y.val] V fun e V' => e = .returned (.bool true) ∧ Below V.heap.size V V' := by
 obtain ⟨t, h1, h2, _, h4⟩ := h (max D D') (Nat.le_max_left _ _) (by omega)
 obtain ⟨u, k1, k2, _, k4⟩ := h' (max D D') (Nat.le_max_right _ _) (by omega)
 obtain rfl := tv_inj h1
 obtain rfl := tv_inj k1
 refine (same_any _ t u V h2 k2).mono fun e V' q => ?_
 rw [sameT_code h2.wl k2.wl, h4, k4] at q
 exact ⟨by simpa using q.1, q.2⟩
theorem stillM {n lo : Nat} {x a : Tm n} {W : World} (ho : Owned lo W x) (ha : IsT W.heap.size W a) (hc : code x = code a) (hl : (code a).length ≤ 4194304) : Calls Tryz.prog 11 #[x.tv.val, a.tv.val] W fun e W' => e = .returned (.bool true) ∧ Below W.heap.size W W' :=
 still_any n x a W ho.is ho.rm ha (by rw [sameT_code ho.is.wl ha.wl]; simp [hc]) (by rw [hc]; exact hl)
theorem Owned.can {n lo : Nat} {x : Tm n} {W : World} (h : Owned lo W x) : CanSp (fun k => k ∈ blks x) W x.tv.val := ⟨n, x, rfl, h.is, spT_owned h.is h.rm⟩
theorem SpT.nofix {S : Nat → Prop} {W : World} : ∀ {n : Nat} {t : Tm n}, SpT S W t → ∀ k ∈ blks t, IsT W.heap.size W t → NoFix W k := by
 intro n
 induction n with
 | zero => intro t; exact Empty.elim t
 | succ n ih =>
  intro t h k hk hT
  obtain ⟨x, kids⟩ := t
  obtain ⟨h1, h2⟩ := h
  rw [blks_succ] at hk
  rcases List.mem_append.1 hk with hk | hk
  ·split at hk
   ·cases hk
   ·rename_i hne
    rcases h1 with h1 | ⟨b, _, ha, _, hw⟩
    ·exact absurd h1.1 hne
    ·rw [show x.a = _ from ha] at hk
     simp at hk
     subst hk
     exact row4_nofix hw
  ·obtain ⟨u, hu, hku⟩ := List.mem_flatMap.1 hk
   obtain ⟨j, hj⟩ := List.mem_iff_getElem?.1 hu
   rcases hT.2.2.2 with h4 | ⟨b, off, _, _, hkk⟩
   ·rw [show kids = [] from h4] at hu; cases hu
   ·exact ih (h2 u hu) k hku (hkk j u hj).2
theorem makeC_succ {n : Nat} (y : TV) (ky : List (Tm n)) : makeC (n := n) ((y, ky) : TV × List (Tm n)) = if isB y [58, 45] 2 = true then (match ky with | [u, v] => makeJ (headBad u.tv) (code u) (bodyC v) | _ => none) else makeJ (headBad y) (code (n := n + 1) ((y, ky) : TV × List (Tm n))) (some (atomC trueL)) := rfl
theorem makeR_copy {n : Nat} {x t : Tm (n + 1)} (hx : Wl x) (ht : Wl t) (h : code x = code t) : makeR x = makeR t := by
 have ho : okT x = okT t := by rw [okT_m, okT_m, h]
 unfold makeR
 rw [ho]
 cases hok : okT t with
 | false => rfl
 | true =>
  have hm : makeC x = makeC t := by
   obtain ⟨y, ky⟩ := x
   obtain ⟨z, kz⟩ := t
   have h' := h
   rw [code_succ, code_succ] at h'
   have e1 := (List.cons.inj h').1
   have e2 := (List.cons.inj h').2
   have hn := nd_parts e1
   have hib : isB y [58, 45] 2 = isB z [58, 45] 2 := by unfold isB; rw [hn.1, hn.2.2.1, hn.2.2.2]
   have hhb : headBad y = headBad z := by unfold headBad; rw [hn.1, hn.2.2.1, hn.2.2.2]
   rw [makeC_succ, makeC_succ, hib]
   cases hi : isB z [58, 45] 2 with
   | false => rw [if_neg (by simp), if_neg (by simp), hhb, h]
   | true =>
    have hlz : z.len = 2 := by have h0 := hi; unfold isB at h0; simp only [Bool.and_eq_true, beq_iff_eq] at h0; have := h0.2.2; omega
    have hly : y.len = 2 := by rw [hn.2.2.2]; exact hlz
    obtain ⟨a, b, rfl⟩ := two_kids hx hly
    obtain ⟨a', b', rfl⟩ := two_kids ht hlz
    have hk := (ok_kids hok).2
    have hka := hk a' (by simp)
    have hkb := hk b' (by simp)
    have hwa : Wl a := hx.2 a (by simp [Tm.kids])
    have hwb : Wl b := hx.2 b (by simp [Tm.kids])
    have hwa' : Wl a' := ht.2 a' (by simp [Tm.kids])
    have hwb' : Wl b' := ht.2 b' (by simp [Tm.kids])
    simp only [List.flatMap_cons, List.flatMap_nil, List.append_nil] at e2
    have e3 := ren_two (fun N => N) (u := a') (v := b') (u' := a) (v' := b) hwa' hka hwa (by rw [e2, renC_append, renC_id (by rw [← okT_m]; exact hka), renC_id (by rw [← okT_m]; exact hkb)])
    rw [renC_id (by rw [← okT_m]; exact hka), renC_id (by rw [← okT_m]; exact hkb)] at e3
    have hnd : a.tv.k = a'.tv.k ∧ a.tv.s.toList = a'.tv.s.toList ∧ a.tv.len = a'.tv.len := by
     cases n with
     | zero => exact Empty.elim a
     | succ n =>
      obtain ⟨q, kq⟩ := a
      obtain ⟨q', kq'⟩ := a'
      have e4 := e3.1
      rw [code_succ, code_succ] at e4
      have := nd_parts (List.cons.inj e4).1
      exact ⟨this.1, this.2.2.1, this.2.2.2⟩
    have hha : headBad a.tv = headBad a'.tv := by unfold headBad; rw [hnd.1, hnd.2.1, hnd.2.2]
    have hbb : bodyC b = bodyC b' := body_copy hwb' hkb hwb e3.2
    rw [if_pos rfl, if_pos rfl]
    show makeJ (headBad a.tv) (code a) (bodyC b) = makeJ (headBad a'.tv) (code a') (bodyC b')
    rw [hha, e3.1, hbb]
  rw [hm]
/- Opening a list of terms and a list of numbers. -/
open Go.ChangeShapes Go.WideShapes Go.ChangeAt Go.Joins
def RowT (n₀ : Nat) (W : World) (a : Option Addr) (len : Nat) {n : Nat} (kids : List (Tm n)) : Prop :=
 len = kids.length ∧ len ≤ 9223372036854775807 ∧ (kids = [] ∨ ∃ b off, a = some ⟨b, off, none⟩ ∧ b < n₀ ∧ ∀ j u, kids[j]? = some u → cellsAt W b (off + j * 4) u.tv ∧ IsT n₀ W u)
set_option maxRecDepth 100000 in
theorem open_terms {H : Type} {enc : TypeId × Value → H} {w : World} {r : Reach} {b0 : Nat} {spare : Nat → Bool} {held : Bool} {v : Value} {d : DataW H} {p : List MemPlace} (hv : Value.okWide Tryz.prog w r b0 22 v) (h : DataW.Trod enc Tryz.prog w 0 spare held 22 v d p) :
  ∃ a len cap, v = .slice a len cap ∧ len ≤ Rows.uptoBulk d ∧ ∀ m, Rows.uptoBulk d ≤ m → m ≤ 2199023255552 → ∃ kids : List (Tm m), RowT w.heap.size w a len kids ∧ ∀ u ∈ kids, (code u).length ≤ Rows.uptoBulk d ∧ ∀ x ∈ parts u, Nw x := by
 obtain ⟨a, len, cap, rfl⟩ := okWide_slice Tryz.underlying22 hv
 obtain ⟨fuel, hf⟩ := h
 have hf' : DataW.trod enc Tryz.prog w 0 spare held fuel 22 [.slice a len cap] = some (d, p) := by simpa [Value.cells] using hf
 refine ⟨a, len, cap, rfl, ?_⟩
 rcases DataW.trod_slice Tryz.underlying22 hf' with ⟨g3, hd3⟩ | ⟨a', len', cap', elems, rest, n', hn', g3, hd3, hb, hlc, hmx, hlen, hel, -, -⟩
 ·simp only [List.cons.injEq, and_true, Value.slice.injEq] at g3
  obtain ⟨rfl, rfl, rfl⟩ := g3
  exact ⟨Nat.zero_le _, fun m _ _ => ⟨[], ⟨rfl, by omega, .inl rfl⟩, (fun u hu => by cases hu)⟩⟩
 ·simp only [List.cons.injEq, and_true, Value.slice.injEq] at g3
  obtain ⟨rfl, rfl, rfl⟩ := g3
  unfold maxLen at hmx
  have hd3' : d = DataW.slice (elems.map (·.1)) (rest.map (·.1)) := (Prod.ext_iff.1 hd3).1
  have hbl : ∀ x ∈ elems.map (·.1), Rows.uptoBulk x ≤ Rows.uptoBulk d := fun x hx => by
   have := bulk_part hx
   rw [hd3']
   simp only [Rows.uptoBulk]
   omega
  have hll : len ≤ Rows.uptoBulk d := by
   have := bulk_len (elems.map (·.1))
   rw [List.length_map, hlen] at this
   rw [hd3']
   simp only [Rows.uptoBulk]
   omega
  refine ⟨hll, fun m hm hlim => ?_⟩
  by_cases hl0 : len = 0
  ·subst hl0
   exact ⟨[], ⟨rfl, by omega, .inl rfl⟩, (fun u hu => by cases hu)⟩
  ·have hel' : ∀ i, i < len → ∃ u : Tm m, w.cells? 0 (a'.add (i * 4)) 4 = some [.int .i64 u.tv.k, .int .i64 u.tv.N, .string u.tv.s, .slice u.tv.a u.tv.len u.tv.cap] ∧ IsT w.heap.size w u ∧ (∀ x ∈ parts u, Nw x) ∧ (code u).length ≤ Rows.uptoBulk d := by
    intro i hi
    have h1 := hel i hi
    rw [List.getElem?_eq_getElem (by omega)] at h1
    obtain ⟨cs', h2, h3⟩ := Option.bind_eq_some_iff.1 h1
    obtain ⟨u0, hu, hU, hc, hnw⟩ := open_nums n' n' (Nat.le_refl _) n' (Nat.le_refl _) cs' _ h3
    have hc' := Nat.le_trans hc (hbl _ (List.mem_map.2 ⟨_, List.getElem_mem _, rfl⟩))
    have hp' : (parts u0).length ≤ Rows.uptoBulk d := by simpa [code] using hc'
    obtain ⟨u, e1, hT, e3⟩ := lower n' u0 hU m (by omega) hlim
    rw [← e1] at hu
    subst hu
    rw [Tryz.cells28] at h2
    exact ⟨u, h2, hT, by rw [e3]; exact hnw, by simpa [code, e3] using hp'⟩
   clear hel
   obtain ⟨b, off, spot⟩ := a'
   have hspot : spot = none := by
    obtain ⟨u, h2, -⟩ := hel' 0 (by omega)
    obtain ⟨s1, -⟩ := cells4 h2
    simpa [Addr.add] using s1
   subst hspot
   have hkid : ∀ i, i < len → ∃ u : Tm m, b < w.heap.size ∧ (cellsAt w b (off + i * 4) u.tv ∧ IsT w.heap.size w u) ∧ (∀ x ∈ parts u, Nw x) ∧ (code u).length ≤ Rows.uptoBulk d := by
    intro i hi
    obtain ⟨u, h2, hT, hnw, hc⟩ := hel' i hi
    rw [add_none] at h2
    obtain ⟨-, k0, k1, k2, k3⟩ := cells4 h2
    exact ⟨u, cell_lt k0, ⟨⟨k0, k1, k2, k3⟩, hT⟩, hnw, hc⟩
   obtain ⟨kids, hkl, hks⟩ := list_of hkid
   obtain ⟨_, hb0, _⟩ := hkid 0 (by omega)
   refine ⟨kids, ⟨hkl.symm, by omega, .inr ⟨b, off, rfl, hb0, fun j u hu => (hks j u hu).2.1⟩⟩, fun u hu => ?_⟩
   obtain ⟨i, hi⟩ := List.getElem?_of_mem hu
   exact ⟨(hks i u hi).2.2.2, (hks i u hi).2.2.1⟩
end Go.Proofs.YtlbobmebbllifaaGreat
