import Derived.Test.YtjdanfhbccpnpaaBcI
import Derived.Test.YtjdanfhbccpnpaaHss
/- (*base.Base).Look, of a goal with no key, over a tree of one entry. -/
namespace Go.Proofs.Ytjdanfhbccpnpaa
open Go.RowKit Go.Shelf Go.Maps

theorem oneT_is {eb lo q : Nat} {W : World} {pl : Int} (h : OneT eb lo q W) (hp : W.cell? ⟨eb, 0, none⟩ = some (.int .i64 pl)) : TrIs W (nodeT (n := 0) q eb pl 1 () ()) (some ⟨q, 0, none⟩) := ⟨rfl, none, none, h.2, hp, rfl, rfl⟩
theorem oneT_after (q eb : Nat) (pl h p : Int) : afterT (nodeT (n := 0) q eb pl h () ()) p none = if p < pl then some eb else none := rfl
theorem Try.infoI : (Try.prog.info? 3).map (fun i => (i.zero, i.size, i.bytes)) = some (some (.int .i64 0), 1, 8) := by kernel_rfl
theorem one_newI {W : World} {N : Int} : ∀ j u, ([.int .i64 N] : List Value)[j]? = some u → (W.alloc (.cells #[.int .i64 N] 3)).cell? ((⟨W.heap.size, 0, none⟩ : Addr).add j) = some u := by
  intro j u hj
  match j, hj with
  | 0, hj =>
    have hb := World.alloc_heap_new W (.cells #[.int .i64 N] 3)
    simp at hj
    subst hj
    show World.cell? _ ⟨W.heap.size, 0, none⟩ = _
    simp only [World.cell?]
    rw [hb]
    rfl
  | k + 1, hj => simp at hj
theorem one_oneI {N : Int} : ∀ u ∈ ([.int .i64 N] : List Value), u.oneCell' = true := by
  intro u hu
  simp at hu
  subst hu
  rfl
theorem row_slice {W : World} {base sz n : Nat} {e : TypeId} {v : Value} {xs : List Value} (h : W.ownsRow base e sz v n xs) : ∃ a cap, v = .slice a n cap := by
  obtain ⟨_, h⟩ := h
  rcases h with ⟨hv, hn⟩ | ⟨_, cap, _, hv, _⟩
  · exact ⟨none, 0, by rw [hv, hn]⟩
  · exact ⟨_, cap, hv⟩
set_option maxRecDepth 100000 in
set_option maxHeartbeats 4000000 in
theorem look_one (b me mf fb km eb q : Nat) (laid pl : Int) (lo : Nat) (cf : Nat) (gf : Lit → Option Addr) {n : Nat} (tg : Tm (n + 1)) (W : World) (hb : BsBlk W b laid me mf) (hmf : PM 74 W mf cf gf) (hf : FmBlk W fb (some ⟨q, 0, none⟩) km) (hq : OneT eb lo q W) (hpl : W.cell? ⟨eb, 0, none⟩ = some (.int .i64 pl)) (hp0 : -9223372036854775808 < pl) (hp1 : pl ≤ 9223372036854775807) (hT : IsT W.heap.size W tg) (hok : okT tg = true) (hcall : (decide (tg.tv.k = 3) || decide (tg.tv.k = 4)) = true) (hkey : keyOfV tg = keyV 0 0 ⟨#[]⟩ 0) (hg : gf (predL tg.tv.s tg.tv.len) = some ⟨fb, 0, none⟩) :
    Calls Try.prog 16 #[.pointer (some ⟨b, 0, none⟩), tg.tv.val] W fun e W' => (∃ a cap, e = .returned (.tuple #[.slice a 1 cap, .int .i64 0])) ∧ Below W.heap.size W W' := by
  have hel : eb < W.heap.size := by
    by_cases h : eb < W.heap.size
    · exact h
    · have : W.heap[eb]? = none := Array.getElem?_eq_none (by omega)
      simp [World.cell?, this] at hpl
  have hql : q < W.heap.size := (Array.getElem?_eq_some_iff.1 hq.2).1
  have hb1 : Below W.heap.size W (W.alloc (.cells #[.int .i64 tg.tv.k, .int .i64 tg.tv.N, .string tg.tv.s, .slice tg.tv.a tg.tv.len tg.tv.cap] 24)) := (Below.refl _ W).alloc (Nat.le_refl _) _
  have hvw := view_all b me mf fb km laid cf gf (some ⟨q, 0, none⟩) tg _ ((hb1.block b hb.lt).trans hb) (hmf.kept (hb1.block mf hmf.lt)) ((hb1.block fb hf.lt).trans hf) ((hT.below hb1).mono hb1.size) hok hcall hkey hg
  have HST : Hid (∀ (V : World) (vb : Nat) (last : Int), Below W.heap.size W V → W.heap.size ≤ vb → VwBlk V vb (some ⟨q, 0, none⟩) none last → Calls Try.prog 30 #[.pointer (some ⟨vb, 0, none⟩)] V fun e W' => e = .returned (ptrE (if last < pl then some eb else none)) ∧ GrB (fun k => k = vb) V.heap.size V W' ∧ StepSays (if last < pl then some eb else none) V W' vb (some ⟨q, 0, none⟩) last) := fun V vb last hV hvb hvw => by
    have hp' : V.cell? ⟨eb, 0, none⟩ = some (.int .i64 pl) := (hV.cell (p := ⟨eb, 0, none⟩) hel).trans hpl
    have hq' : OneT eb lo q V := ⟨hq.1, (hV.block q hql).trans hq.2⟩
    have h := step_one vb (some ⟨q, 0, none⟩) last (nodeT (n := 0) q eb pl 1 () ()) V hvw (oneT_is hq' hp') (fun eb' he => by
      rw [oneT_after] at he
      split at he
      · cases he
        exact ⟨pl, hp', by have := hV.size; omega, by omega⟩
      · cases he)
    rw [oneT_after] at h
    exact h
  have hia := fun V => idAt_any pl V hp0 hp1
  have HPL : Hid (∀ V, Below W.heap.size W V → V.cell? ⟨eb, 0, none⟩ = some (.int .i64 pl)) := fun V hV => (hV.cell (p := ⟨eb, 0, none⟩) hel).trans hpl
  have hs1 : (W.alloc (.cells #[.int .i64 tg.tv.k, .int .i64 tg.tv.N, .string tg.tv.s, .slice tg.tv.a tg.tv.len tg.tv.cap] 24)).heap.size = W.heap.size + 1 := by simp
  have H1 := hide (And.intro hb1 hs1)
  obtain ⟨i0, hi, hz0, hz1, hz2⟩ := info_parts Try.infoI
  have hmin : (-9223372036854775808 : Int) < pl := hp0
  clear hb hmf hf hq hpl hT hok hcall hkey hg hb1 hs1
  simp only [TV.val] at hvw ⊢
  go_enter Try.func16, Try.ntmps16
  go_wp2_with fail
  refine hvw.mono ?_
  clear hvw
  rintro e V1 ⟨vb, rfl, hvb, hv1, g1⟩
  obtain ⟨hb1, hs1⟩ := unhide H1
  have gW1 : Below W.heap.size W V1 := hb1.trans (g1.mono (by omega))
  have hst := HST.out V1 vb (-9223372036854775808) gW1 (by omega) hv1
  rw [if_pos hmin] at hst
  have hvl := hv1.lt
  have s1 := g1.size
  have HW1 := hide gW1
  have hvW : W.heap.size ≤ vb := by omega
  clear hb1 hv1 g1 gW1 H1
  simp only [ptrE, Option.map_some] at hst
  go_wp2_with fail
  refine hst.mono ?_
  clear hst
  rintro e V2 ⟨rfl, g2, hs2, -⟩
  have hv2 := hs2 eb rfl pl (HPL.out V1 (unhide HW1))
  have gW2 : Below W.heap.size W V2 := (unhide HW1).trans (g2.below (n₀ := W.heap.size) (fun k hk => by rw [hk]; exact hvW) (by omega))
  clear hs2 g2 hmin hvl s1
  go_wp2_with fail
  go_loopw [8, 9] (fun l e wr => (l = .slice none 0 0 ∧ e = .pointer (some ⟨eb, 0, none⟩) ∧ Below W.heap.size W wr ∧ VwBlk wr vb (some ⟨q, 0, none⟩) none pl) ∨ ((∃ a cap, l = .slice a 1 cap) ∧ e = .pointer none ∧ Below W.heap.size W wr)) (fun _ e _ => match e with | .pointer (some _) => 1 | _ => 0)
  case atStart => exact .inl ⟨rfl, rfl, gW2, hv2⟩
  case round =>
    rcases hrel with ⟨rfl, rfl, hb, hv⟩ | ⟨⟨a, cap, rfl⟩, rfl, hb⟩
    · have hpc := HPL.out wr hb
      have hstp := fun (V : World) (hV : Below W.heap.size W V) (hvw : VwBlk V vb (some ⟨q, 0, none⟩) none pl) => HST.out V vb pl hV hvW hvw
      rw [if_neg (by omega)] at hstp
      have hown : (wr.alloc (.cells #[.int .i64 (max pl (-pl))] 3)).ownsRow wr.heap.size 3 1 (.slice none 0 0) 0 [] := ⟨rfl, .inl ⟨rfl, rfl⟩⟩
      have HK := hide (And.intro hb hv)
      have HSTP := hide hstp
      clear hb hv hstp hv2 gW2
      go_wp2_with fail
      refine (hia _).mono ?_
      clear hia
      rintro e W3 ⟨rfl, rfl⟩
      go_wp2_with (at_builtin; go_must (refine wpList_append_own_at _ rfl _ _ 25 rfl W3.heap.size 3 i0 _ 1 8 Try.underlying25 hi hz0 hz1 hz2 rfl (by decide) (.slice none 0 0) 0 [] rfl hown ⟨W3.heap.size, 0, none⟩ 1 1 [.int .i64 (max pl (-pl))] rfl rfl one_newI one_oneI (by unfold maxLen; omega) (by omega) (by simp) ?_; intro v' w1 hown' hgrow hnil hbk))
      obtain ⟨a', cap', rfl⟩ : ∃ a cap, v' = .slice a 1 cap := row_slice hown'
      obtain ⟨hb, hv⟩ := unhide HK
      have hvl := hv.lt
      have gs := hgrow.size
      rw [World.size_alloc] at gs
      have g13 : Below W3.heap.size W3 w1 := ⟨hgrow.os, hgrow.tape, hgrow.output, by omega, fun k hk => (hgrow.block k (by simp; omega) (by simp [Value.ownBlock])).trans (Below.heap_alloc _ _ _ hk)⟩
      have gW4 : Below W.heap.size W w1 := hb.trans (g13.mono hb.size)
      have hv4 : VwBlk w1 vb (some ⟨q, 0, none⟩) none pl := (g13.block vb hvl).trans hv
      have hs4 := (unhide HSTP) w1 gW4 hv4
      have HG := hide gW4
      have hws := gW4.size
      clear hb hv hvl gs g13 gW4 hv4 HK HSTP hown' hgrow hnil hbk hown
      simp only [ptrE, Option.map_none] at hs4
      refine hs4.mono ?_
      clear hs4
      rintro e V5 ⟨rfl, g5, -⟩
      have HG5 : Hid (Below W.heap.size W V5) := (unhide HG).trans (g5.below (n₀ := W.heap.size) (fun k hk => by rw [hk]; exact hvW) hws)
      clear g5 HG hws
      go_wp2_with fail
      go_roundw
      case rel => exact .inr ⟨⟨_, _, rfl⟩, rfl, unhide HG5⟩
      case measure => simp
    · clear hv2 gW2 HST HPL hia
      have HB := hide hb
      clear hb
      go_wp2_with fail
      exact bodyPost_ret (v := .tuple #[.slice a 1 cap, .int .i64 0]) (by simp [results, Try.results16, go_sem]) rfl ⟨⟨a, cap, rfl⟩, unhide HB⟩
end Go.Proofs.Ytjdanfhbccpnpaa

