import Derived.Test.YtojefplapklbmaaGreatDoorMrm
import Derived.Test.YtojefplapklbmaaGreatDoorCss
/- The contract of term.Put, told of the memory of what it answers. (Written by wip/newgen6.py off Pp and Pq.) -/
namespace Go.Proofs.YtojefplapklbmaaGreatDoor
open Go.RowKit Go.Shelf Go.Maps

theorem row4_any {W : World} {b len : Nat} (h : Row4 W b len) (b' o : Nat) (y : TV) : Row4 (set4 W b' o y) b len := by
  by_cases e : b = b'
  · subst e; exact h.set4 o y
  · exact h.kept (set4_other W b' o y e)
/-- Whole rows stay whole rows, whatever is written into them. -/
theorem wh_set4 {lo : Nat} {W : World} (b o : Nat) (y : TV) : ∀ {n : Nat} {t : Tm n}, WhT lo W t → WhT lo (set4 W b o y) t := by
  intro n
  induction n with
  | zero => intro t; exact Empty.elim t
  | succ n ih =>
    intro t hw
    refine ⟨?_, fun u hu => ih (hw.2 u hu)⟩
    rcases hw.1 with h | ⟨b', arr, h1, h2, h3, h4, h5⟩
    · exact .inl h
    · obtain ⟨arr', h6, h7⟩ := row4_any ⟨arr, h4, h5⟩ b o y
      exact .inr ⟨b', arr', h1, h2, h3, h6, h7⟩
theorem lift_wh {lo : Nat} {W : World} : ∀ {n : Nat} {t : Tm n}, WhT lo W t → WhT lo W t.lift := by
  intro n
  induction n with
  | zero => intro t; exact Empty.elim t
  | succ n ih =>
    intro t ht
    obtain ⟨x, kids⟩ := t
    obtain ⟨h1, h2⟩ := ht
    refine ⟨?_, fun u hu => ?_⟩
    · rcases h1 with h1 | h1
      · exact .inl ⟨by show kids.map Tm.lift = []; rw [show kids = [] from h1.1]; rfl, h1.2⟩
      · exact .inr h1
    · have hu' : u ∈ kids.map Tm.lift := hu
      obtain ⟨v, hv, rfl⟩ := List.mem_map.1 hu'
      exact ih (h2 v hv)
theorem lift_toW {n₀ lo : Nat} {S : Nat → Prop} {W : World} {n : Nat} {t : Tm n} (hT : IsT n₀ W t) (hS : BlkT S t) (hw : WhT lo W t) : ∀ M, n ≤ M → M ≤ 2199023255552 → ∃ t' : Tm M, t'.tv = t.tv ∧ IsT n₀ W t' ∧ BlkT S t' ∧ code t' = code t ∧ WhT lo W t' := fun M hM hlm => by
  obtain ⟨k, rfl⟩ : ∃ k, M = n + k := ⟨M - n, by omega⟩
  clear hM
  induction k with
  | zero => exact ⟨t, rfl, hT, hS, rfl, hw⟩
  | succ k ih =>
    obtain ⟨t', h1, h2, h3, h4, h5⟩ := ih (by omega)
    exact ⟨t'.lift, by rw [lift_tv]; exact h1, lift_isT h2 (by omega), lift_blk h3, by rw [lift_code]; exact h4, lift_wh h5⟩
/-- The value v is a term of the code c, its rows whole blocks from lo on. -/
def HoldsWh (D lo : Nat) (W : World) (v : Value) (c : List Nd) : Prop :=
  ∀ m, D ≤ m → m ≤ 2199023255552 → ∃ t : Tm m, v = t.tv.val ∧ IsT W.heap.size W t ∧ WhT lo W t ∧ code t = c
theorem HoldsT.whole {D lo : Nat} {W : World} {v : Value} {c : List Nd} (h : HoldsT D lo W v c) : HoldsWh D lo W v c := fun m hm hlm => by
  obtain ⟨t, h1, h2, h3, h4⟩ := h m hm
  exact ⟨t, h1, h2 hlm, h3.wh, h4⟩
/-- What Put answers, of terms. -/
def PutNew (D lo : Nat) (W' : World) (no : Prop) (c : List Nd) (x : TV) (e : Int) : Prop :=
  (no ∧ x = zeroT ∧ e = 8) ∨ (¬ no ∧ e = 0 ∧ HoldsWh D lo W' x.val c)
theorem put_worldW {N D lo : Nat} {S : Nat → Prop} {W : World} {y : TV} {cy : List Nd} {b' o' : Nat} (hyy : ∀ m, D ≤ m → m ≤ 2199023255552 → ∃ y' : Tm m, y'.tv = y ∧ IsT N (set4 W b' o' y) y' ∧ code y' = cy ∧ BlkT S y' ∧ WhT lo (set4 W b' o' y) y') :
    ∀ (ns : List Int) {n : Nat} {t : Tm n} {n₀ b o : Nat}, n₀ ≤ N → IsT n₀ W t → cellsAt W b o t.tv → (blks t).Nodup → b ∉ blks t → (∀ x ∈ blks t, S x) → addrT ns t b o = some (b', o') → WhT lo W t →
      ∀ m, n + D ≤ m → m ≤ 2199023255552 → ∃ t' : Tm m, cellsAt (set4 W b' o' y) b o t'.tv ∧ IsT N (set4 W b' o' y) t' ∧ code t' = putC ns t cy ∧ BlkT S t' ∧ WhT lo (set4 W b' o' y) t' := by
  intro ns
  induction ns with
  | nil =>
    intro n t n₀ b o hN hT hc hnd hb hSt had hwh m hm hlm
    simp only [addrT, Option.some.injEq, Prod.mk.injEq] at had
    obtain ⟨rfl, rfl⟩ := had
    obtain ⟨y', h1, h2, h3, h5, h6⟩ := hyy m (by omega) hlm
    refine ⟨y', ?_, h2, h3, h5, h6⟩
    rw [h1]
    obtain ⟨c0, c1, c2, c3⟩ := hc
    exact set4_cells W b o y (by rw [c0]; rfl) (by rw [c1]; rfl) (by rw [c2]; rfl) (by rw [c3]; rfl)
  | cons k r ih =>
    intro n t n₀ b o hN hT hc hnd hb hSt had hwh m hm hlm
    cases n with
    | zero => exact Empty.elim t
    | succ n =>
      by_cases hin : 0 ≤ k ∧ k < (t.kids.length : Int)
      · obtain ⟨q, hq⟩ : ∃ q : Nat, k = (q : Nat) := ⟨k.toNat, by omega⟩
        obtain ⟨z, hz⟩ : ∃ z, t.kids[q]? = some z := ⟨t.kids[q]'(by omega), List.getElem?_eq_getElem (by omega)⟩
        obtain ⟨g1, g2, g3, h4⟩ := hT
        have hne : t.kids ≠ [] := fun e => by rw [e] at hz; simp at hz
        obtain ⟨bk, off, ha, hbk, hk⟩ := h4.resolve_left hne
        rw [addrT_go hq hz ha] at had
        have hbl := blks_cons hne ha
        rw [hbl] at hnd hb hSt
        rw [List.nodup_cons] at hnd
        obtain ⟨hbk1, hnd2⟩ := hnd
        have hsub : ∀ {i : Nat} {v : Tm n}, t.kids[i]? = some v → ∀ x ∈ blks v, x ∈ t.kids.flatMap blks := fun hv x hx => List.mem_flatMap.2 ⟨_, List.mem_of_getElem? hv, hx⟩
        have hndz : ∀ {i : Nat} {v : Tm n}, t.kids[i]? = some v → (blks v).Nodup := fun {i v} hv => nodup_mem _ hnd2 v (List.mem_of_getElem? hv)
        have hdis : ∀ {i : Nat} {v : Tm n}, t.kids[i]? = some v → i ≠ q → ∀ x ∈ blks v, x ∉ blks z := fun {i v} hv hi x hx => nodup_dis _ hnd2 i q v z hv hz hi x hx
        obtain ⟨hcz, hTz⟩ := hk q z hz
        have hbin := addr_in r hTz had
        have hb'in : b' = bk ∨ b' ∈ blks z := by rcases hbin with ⟨h, _⟩ | h
                                                 · exact .inl h
                                                 · exact .inr h
        have hbne : b ≠ b' := fun e => hb (by
          rcases hb'in with h | h
          · rw [e, h]; exact List.mem_cons_self
          · rw [e]; exact List.mem_cons_of_mem _ (hsub hz _ h))
        obtain ⟨M, rfl⟩ : ∃ M, m = M + 1 := ⟨m - 1, by omega⟩
        obtain ⟨z', z1, z2, z3, z4, z5⟩ := ih hN hTz hcz (hndz hz) (fun h => hbk1 (hsub hz _ h)) (fun x hx => hSt x (List.mem_cons_of_mem _ (hsub hz x hx))) had (hwh.2 z (List.mem_of_getElem? hz)) M (by omega) (by omega)
        obtain ⟨ks, hkl, hks⟩ := build (M := M) t.kids (fun i v v' => cellsAt (set4 W b' o' y) bk (off + i * 4) v'.tv ∧ IsT N (set4 W b' o' y) v' ∧ (code v' = if i = q then putC r v cy else code v) ∧ BlkT S v' ∧ WhT lo (set4 W b' o' y) v') (fun i v hv => by
          by_cases hi : i = q
          · subst hi
            rw [hz] at hv
            cases hv
            exact ⟨z', z1, z2, (by rw [if_pos rfl]; exact z3), z4, z5⟩
          · obtain ⟨hcv, hTv⟩ := hk i v hv
            have hnot : b' ∉ blks v := fun h => by
              rcases hb'in with e | e
              · exact hbk1 (e ▸ hsub hv _ h)
              · exact hdis hv hi _ h e
            obtain ⟨v', v1, v2, v3, v4, v5⟩ := lift_toW hTv ((blkT_of hTv hnot).and (blkT_in hTv (S := S) fun x hx => hSt x (List.mem_cons_of_mem _ (hsub hv x hx)))) (hwh.2 v (List.mem_of_getElem? hv)) M (by omega) (by omega)
            refine ⟨v', ?_, (v2.fromS (fun x hx => set4_other W b' o' y hx.1) v3).mono hN, (by rw [if_neg hi]; exact v4), v3.mono fun _ h => h.2, wh_set4 b' o' y v5⟩
            rw [v1]
            rcases hbin with ⟨e1, e2⟩ | e
            · rw [e1, e2]
              exact ⟨(set4_far W bk _ y (by omega)).trans hcv.1, (set4_far W bk _ y (by omega)).trans hcv.2.1, (set4_far W bk _ y (by omega)).trans hcv.2.2.1, (set4_far W bk _ y (by omega)).trans hcv.2.2.2⟩
            · exact hcv.kept (set4_other W b' o' y fun e' => hbk1 (e' ▸ hsub hz _ e)))
        refine ⟨((t.tv, ks) : TV × List (Tm M)), hc.kept (set4_other W b' o' y hbne), ⟨by rw [show Tm.kids (n := M) (t.tv, ks) = ks from rfl, hkl]; exact g1, ⟨g2.1, g2.2.1, hlm⟩, g3, .inr ⟨bk, off, ha, by omega, fun j u hu => ?_⟩⟩, ?_⟩
        · have hju : ks[j]? = some u := hu
          obtain ⟨v, hv⟩ : ∃ v, t.kids[j]? = some v := ⟨t.kids[j]'(by have := (List.getElem?_eq_some_iff.1 hju).1; omega), List.getElem?_eq_getElem _⟩
          obtain ⟨k1, k2, _⟩ := hks j v u hv hju
          exact ⟨k1, k2⟩
        · have hwt : ∃ b arr, lo ≤ b ∧ t.tv.a = some ⟨b, 0, none⟩ ∧ t.tv.cap = t.tv.len ∧ (set4 W b' o' y).heap[b]? = some (Obj.cells arr 24 (0, 0)) ∧ arr.size = t.tv.len * 4 := by
            obtain ⟨b, arr, w1, w2, w3, w4, w5⟩ := hwh.1.resolve_left (fun h => hne h.1)
            obtain ⟨arr', w6, w7⟩ := row4_any ⟨arr, w4, w5⟩ b' o' y
            exact ⟨b, arr', w1, w2, w3, w6, w7⟩
          refine ⟨?_, ⟨.inr ⟨bk, off, ha, hSt _ List.mem_cons_self⟩, fun u hu => ?_⟩, ⟨.inr hwt, fun u hu => ?_⟩⟩
          rotate_left
          · obtain ⟨j, hju⟩ := List.mem_iff_getElem?.1 hu
            have hju : ks[j]? = some u := hju
            obtain ⟨v, hv⟩ : ∃ v, t.kids[j]? = some v := ⟨t.kids[j]'(by have := (List.getElem?_eq_some_iff.1 hju).1; omega), List.getElem?_eq_getElem _⟩
            exact (hks j v u hv hju).2.2.2.1
          · obtain ⟨j, hju⟩ := List.mem_iff_getElem?.1 hu
            have hju : ks[j]? = some u := hju
            obtain ⟨v, hv⟩ : ∃ v, t.kids[j]? = some v := ⟨t.kids[j]'(by have := (List.getElem?_eq_some_iff.1 hju).1; omega), List.getElem?_eq_getElem _⟩
            exact (hks j v u hv hju).2.2.2.2
          rw [code_succ, code_zip (g := fun p : Tm n × Nat => if p.2 = q then putC r p.1 cy else code p.1) t.kids ks 0 hkl (fun i v v' hv hv' => by simpa using (hks i v v' hv hv').2.2.1)]
          subst hq
          simp only [putC, putL, Int.toNat_natCast]
      · rw [addrT_no hin] at had
        cases had
theorem put_lastW {n lo : Nat} {t1 : Tm (n + 1)} {ns : List Int} {cu : List Nd} {B b' o' : Nat} {W7 W8 : World} {y : TV} (hT : IsT W7.heap.size W7 t1) (hc : cellsAt W7 B 0 t1.tv) (hnd : (blks t1).Nodup) (hB : B ∉ blks t1) (hlo : ∀ b ∈ blks t1, lo ≤ b ∧ Cell4 W7 b) (hB4 : Cell4 W7 B) (hBlo : lo ≤ B)
    (hb8 : Below W7.heap.size W7 W8) (hy : HoldsT (n + 1) W7.heap.size W8 y.val cu) (had : addrT ns t1 B 0 = some (b', o')) (hlim : 2 * n + 2 ≤ 2199023255552) (hwt : WhT lo W7 t1) :
    (lo ≤ b' ∧ ∃ v : TV, cellsAt W8 b' o' v) ∧ Cell4 W8 b' ∧ ∃ x : TV, cellsAt (set4 W8 b' o' y) B 0 x ∧ ∀ m, 2 * n + 2 ≤ m → m ≤ 2199023255552 → ∃ t' : Tm m, t'.tv = x ∧ IsT W8.heap.size (set4 W8 b' o' y) t' ∧ code t' = putC ns t1 cu ∧ BlkT (fun b => lo ≤ b) t' ∧ WhT lo (set4 W8 b' o' y) t' := by
  have hin := addr_in ns hT had
  have h4 : lo ≤ b' ∧ Cell4 W7 b' := by
    rcases hin with ⟨rfl, _⟩ | h
    · exact ⟨hBlo, hB4⟩
    · exact hlo _ h
  have hT8 : IsT W7.heap.size W8 t1 := hT.below hb8
  have hc8 : cellsAt W8 B 0 t1.tv := hc.kept (hb8.block _ hB4.lt)
  obtain ⟨v, hv⟩ := addr_cells ns hT hc had
  refine ⟨⟨h4.1, v, hv.kept (hb8.block _ h4.2.lt)⟩, h4.2.kept (hb8.block _ h4.2.lt), ?_⟩
  have hyy : ∀ m, n + 1 ≤ m → m ≤ 2199023255552 → ∃ y' : Tm m, y'.tv = y ∧ IsT W8.heap.size (set4 W8 b' o' y) y' ∧ code y' = cu ∧ BlkT (fun b => lo ≤ b) y' ∧ WhT lo (set4 W8 b' o' y) y' := fun m hm hlm => by
    obtain ⟨y', e1, e2', e3, e4⟩ := hy m hm
    have e2 := e2' hlm
    have hb := e3.new.blk
    have hlt := h4.2.lt
    have hle := h4.1
    exact ⟨y', (TV.val_inj e1).symm, e2.fromS (fun b (h : W7.heap.size ≤ b) => set4_other _ _ _ _ (by omega)) hb, e4, hb.mono fun b (h : W7.heap.size ≤ b) => by show lo ≤ b; omega, wh_set4 b' o' y (WhT.mono (by omega) e3.wh)⟩
  have hput := put_worldW hyy ns hb8.size hT8 hc8 hnd hB (fun b hb => (hlo b hb).1) had (WhT.kept (fun b _ hl => hb8.block b hl) hwt)
  obtain ⟨t', p1, p2, p3, p4, p5⟩ := hput (2 * n + 2) (by omega) hlim
  refine ⟨t'.tv, p1, fun m hm hlm => ?_⟩
  obtain ⟨t2, q1, q2, q3, q4, q5⟩ := hput m (by omega) hlm
  exact ⟨t2, cellsAt_inj q1 p1, q2, q3, q4, q5⟩

set_option maxRecDepth 100000 in
set_option maxHeartbeats 4000000 in
theorem put_new {n : Nat} (t u : Tm n) (ns : List Int) (a : Option Addr) (len cap : Nat) (w : World) (ht : IsT w.heap.size w t) (hu : IsT w.heap.size w u) (okt : okT t = true) (oku : okT u = true) (hN : IsN w a len ns) (hn40 : n ≤ 549755813888 := by omega) :
    Calls Tryz.prog 23 #[t.tv.val, .slice a len cap, u.tv.val] w fun e W' => ∃ (x : TV) (r : Int), e = .returned (.tuple #[x.val, .int .i64 r]) ∧ Below w.heap.size w W' ∧ PutNew (2 * n + 2) w.heap.size W' (atT ns t = none) (putC ns t (code u)) x r := by
  obtain ⟨W3, hW3, hB3, hba, hbb, hbz, hs3⟩ := three_z w t.tv u.tv
  have hck := checkPair t u w W3 ht hu hB3
  rw [chkL_yes (show [t, u].all okT = true by simp [okt, oku])] at hck
  have hadr : (⟨W3.heap.size, 0, none⟩ : Addr) = ⟨w.heap.size + 1 + 1 + 1, 0, none⟩ := by rw [hs3]
  rw [hadr] at hck
  clear hadr
  have a0 := hba.c0
  have a1 := hba.c1
  have a2 := hba.c2
  have a3 := hba.c3
  have b0 := hbb.c0
  have b1 := hbb.c1
  have b2 := hbb.c2
  have b3 := hbb.c3
  have hct : ∀ W, Below w.heap.size w W → Calls Tryz.prog 68 #[t.tv.val] W fun e W' => ∃ x : TV, e = .returned x.val ∧ Below W.heap.size W W' ∧ HoldsN (n + 1) W.heap.size W' x.val (code t) := fun W hb => copy_sep t W ((ht.below hb).mono hb.size) okt
  have hcu : ∀ W, Below w.heap.size w W → Calls Tryz.prog 68 #[u.tv.val] W fun e W' => ∃ x : TV, e = .returned x.val ∧ Below W.heap.size W W' ∧ HoldsT (n + 1) W.heap.size W' x.val (code u) := fun W hb => copy_any u W ((hu.below hb).mono hb.size) oku
  have hsm : ∀ t1 : Tm (n + 1), Wl t1 → code t1 = code t → (atT ns t1 = none ↔ atT ns t = none) ∧ ∀ c, putC ns t1 c = putC ns t c := fun t1 h1 h2 => at_code ns t1 t h1 ht.wl h2
  have HCT := hide hct
  have HCU := hide hcu
  have HSM := hide hsm
  have HN := hide hN
  have HB3 := hide hB3
  have HBA := hide hba
  have HBB := hide hbb
  have HBZ := hide hbz
  simp only [TV.val] at hck ⊢
  clear ht hu okt oku hB3 hba hbb hbz hct hcu hsm hN
  go_enter Tryz.func23, Tryz.ntmps23
  go_wp2_with fail
  refine hck.mono ?_
  clear hck a0 a1 a2 a3 b0 b1 b2 b3
  rintro e W5 ⟨rfl, hb5⟩
  have hs5 := hb5.size
  have hB5 : Below w.heap.size w W5 := (unhide HB3).trans (hb5.mono (by omega))
  have hba5 := (unhide HBA).kept hb5
  have hbb5 := (unhide HBB).kept hb5
  have hbz5 := (hb5.block _ (by omega)).trans (unhide HBZ)
  have a0 := hba5.c0
  have a1 := hba5.c1
  have a2 := hba5.c2
  have a3 := hba5.c3
  have hc5 := (unhide HCT) W5 hB5
  simp only [TV.val] at hc5
  have HB5 := hide hB5
  have HBB5 := hide hbb5
  have HBZ5 := hide hbz5
  clear hB5 hba5 hbb5 hbz5 hb5
  go_wp2_with fail
  refine hc5.mono ?_
  clear hc5 a0 a1 a2 a3
  rintro e W6 ⟨x, rfl, hb6, hx6⟩
  obtain ⟨t1, ht1, hT1, hnw, hcd, hnd, hbl⟩ := hx6 (n + 1) (Nat.le_refl _) (by omega)
  obtain rfl := TV.val_inj ht1
  have hs6 := hb6.size
  obtain ⟨W7, hW7⟩ : ∃ W7, W6.alloc (.cells #[.int .i64 t1.tv.k, .int .i64 t1.tv.N, .string t1.tv.s, .slice t1.tv.a t1.tv.len t1.tv.cap] 24) = W7 := ⟨_, rfl⟩
  have hb7 : Below W6.heap.size W6 W7 := by rw [← hW7]; exact (Below.refl _ W6).alloc (Nat.le_refl _) _
  have hs7 : W7.heap.size = W6.heap.size + 1 := by rw [← hW7]; simp
  have hbx : BoxT W7 W6.heap.size t1.tv := by rw [← hW7]; exact World.alloc_heap_new W6 _
  have hB7 : Below w.heap.size w W7 := ((unhide HB5).trans (hb6.mono (unhide HB5).size)).trans (hb7.mono (by have := (unhide HB5).size; omega))
  have hT7 : IsT W6.heap.size W7 t1 := hT1.below hb7
  have hsm := (unhide HSM) t1 hT1.wl hcd
  have hc7 : cellsAt W7 W6.heap.size 0 t1.tv := ⟨hbx.c0, hbx.c1, hbx.c2, hbx.c3⟩
  have hpl := placeOf_addr ns a len cap t1 W6.heap.size 0 W7 ((unhide HN).below hB7) hc7 hT7
  have hno : addrT ns t1 W6.heap.size 0 = none ↔ atT ns t = none := (addr_none ns hT7).trans hsm.1
  have hla := fun (W8 : World) (y : TV) (b' o' : Nat) (hb8 : Below W7.heap.size W7 W8) (hy : HoldsT (n + 1) W7.heap.size W8 y.val (code u)) (had : addrT ns t1 W6.heap.size 0 = some (b', o')) =>
    put_lastW (lo := W5.heap.size) (hT7.mono (by omega)) hc7 hnd (fun h => by have := (hbl _ h).2.lt; omega) (fun b hb => ⟨(hbl b hb).1, (hbl b hb).2.kept (hb7.block _ (hbl b hb).2.lt)⟩) ⟨_, hbx⟩ hs6 hb8 hy had (by omega) (WhT.kept (fun b _ hl => hb7.block b hl) hnw.wh)
  rw [hsm.2 (code u)] at hla
  have hbz7 := (hb7.block _ (by omega)).trans ((hb6.block _ (by omega)).trans (unhide HBZ5))
  have hbb7 : BoxT W7 (w.heap.size + 1) u.tv := ((unhide HBB5).kept hb6).kept hb7
  have hcu7 := (unhide HCU) W7 hB7
  have HCU7 := hide hcu7
  have HLA := hide hla
  have HNO := hide hno
  have HBZ7 := hide hbz7
  have HBB7 := hide hbb7
  have HB7 := hide hB7
  clear hcu7 hla hno hbz7 hbb7 hB7 hc7 hsm hT7 hT1 hbx hb7 hb6 hx6 hbl hnd hcd hnw HCU HSM HBZ5 HBB5 HB5 HCT HN HB3 HBA HBB HBZ ht1
  generalize addrT ns t1 W6.heap.size 0 = R at *
  go_wp2_with fail
  refine hpl.mono ?_
  clear hpl
  rintro e W7' ⟨rfl, rfl⟩
  have hsz7 := hs7
  rcases R with _ | ⟨b', o'⟩
  · obtain ⟨⟨z0, z1, z2, z3⟩, y0, y1, y2, y3⟩ := zbox_kept (unhide HBZ7)
    have hbf := set4_below (unhide HB7) (b := w.heap.size + 2) (by omega) 0 zeroT
    unfold zeroT at hbf
    have HF := hide hbf
    have hn := (unhide HNO).1 rfl
    have HNN := hide hn
    clear hbf HLA HNO HCU7 HBB7 hn
    simp only [ptrV]
    go_wp2_with fail
    exact bodyPost_ret (v := .tuple #[.agg #[.int .i64 0, .int .i64 0, .string ⟨#[]⟩, .slice none 0 0], .int .i64 8]) (by simp [results, Tryz.results23, go_sem, z0, z1, z2, z3]) rfl ⟨zeroT, 8, rfl, unhide HF, .inl ⟨unhide HNN, rfl, rfl⟩⟩
  · have hnn : ¬ atT ns t = none := fun h => by have := (unhide HNO).2 h; cases this
    have HNN := hide hnn
    have b0 := (unhide HBB7).c0
    have b1 := (unhide HBB7).c1
    have b2 := (unhide HBB7).c2
    have b3 := (unhide HBB7).c3
    have hc := unhide HCU7
    simp only [TV.val] at hc
    clear hnn HNO HCU7 HBB7
    simp only [ptrV]
    go_wp2_with fail
    refine hc.mono ?_
    clear hc b0 b1 b2 b3
    rintro e W8 ⟨y, rfl, hb8, hy8⟩
    obtain ⟨⟨hlo, v, v0, v1, v2, v3⟩, hfr, x, ⟨x0, x1, x2, x3⟩, hx⟩ := (unhide HLA) W8 y b' o' hb8 hy8 rfl
    have f0 := hfr.free o'
    have f1 := hfr.free (o' + 1)
    have f2 := hfr.free (o' + 2)
    have f3 := hfr.free (o' + 3)
    have hbz9 := (set4_other W8 b' o' y (k := w.heap.size + 2) (by omega)).trans ((hb8.block _ (by omega)).trans (unhide HBZ7))
    have hB9 := set4_below ((unhide HB7).trans (hb8.mono (by have := (unhide HB7).size; omega))) (b := b') (by omega) o' y
    obtain ⟨W9, hW9⟩ : ∃ W9, set4 W8 b' o' y = W9 := ⟨_, rfl⟩
    have hs9 : W9.heap.size = W8.heap.size := by rw [← hW9]; exact set4_size _ _ _ _
    rw [hW9] at hx x0 x1 x2 x3 hbz9 hB9
    unfold set4 at hW9
    obtain ⟨⟨z0, z1, z2, z3⟩, y0, y1, y2, y3⟩ := zbox_kept hbz9
    have hfin : HoldsWh (2 * n + 2) w.heap.size (set4 W9 (w.heap.size + 2) 0 x) x.val (putC ns t (code u)) := fun m hm hlm => by
      obtain ⟨t', e1, e2, e3, e4, e5⟩ := hx m hm hlm
      refine ⟨t', by rw [e1], ?_, wh_set4 _ _ _ (WhT.mono (by omega) e5), e3⟩
      rw [set4_size, hs9]
      exact e2.fromS (fun b (h : W5.heap.size ≤ b) => set4_other _ _ _ _ (by omega)) e4
    have hbf := set4_below hB9 (b := w.heap.size + 2) (by omega) 0 x
    have HF := hide (And.intro hbf hfin)
    clear hbf hfin hx hbz9 hB9 hfr hb8 hy8 HLA HBZ7 HB7 hs9 hlo
    go_wp2_with fail
    exact bodyPost_ret (v := .tuple #[x.val, .int .i64 0]) (by simp [results, Tryz.results23, go_sem, TV.val, z0, z1, z2, z3]) rfl ⟨x, 0, rfl, (unhide HF).1, .inr ⟨unhide HNN, rfl, (unhide HF).2⟩⟩
end Go.Proofs.YtojefplapklbmaaGreatDoor

