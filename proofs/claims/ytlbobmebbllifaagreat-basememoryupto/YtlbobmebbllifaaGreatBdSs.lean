import Derived.Test.YtlbobmebbllifaaGreatBdOs
/- (*base.Base).Add of a base of which BOK holds. -/
namespace Go.Proofs.YtlbobmebbllifaaGreat
open Go.RowKit Go.Shelf Go.Maps
def Added (M : Nat → Prop) (W : World) (b me mf : Nat) (laid : Int) (F : Lit → Option Fam) (E : List En) (pl : Int) (ch cb : List Nd) (W' : World) : Prop :=
 ∃ M' : Nat → Prop, (∀ k, M k → M' k) ∧ (∀ k, M' k → M k ∨ W.heap.size ≤ k) ∧ Mut M' W' ∧ GrB (Own b me mf F) W.heap.size W W' ∧ ∃ (ce' cf' : Nat) (ge' gf' : Lit → Option Addr) (F' : Lit → Option Fam) (x : En), x.pl = pl ∧ x.ch = ch ∧ x.cb = cb ∧ (∀ k, Own b me mf F' k → Own b me mf F k ∨ W.heap.size ≤ k) ∧ BOK M' W' b me mf (laid + 1) ce' cf' ge' gf' F' (insE E x) ∧ ∀ p, (∃ f, F' p = some f) ↔ (∃ f, F p = some f) ∨ p = predC ch
theorem own_new {b me mf : Nat} {F : Lit → Option Fam} {p : Lit} {f' : Fam} {lo : Nat} (h1 : lo ≤ f'.fb) (h2 : lo ≤ f'.km) {k : Nat} (h : Own b me mf (updF F p f') k) : Own b me mf F k ∨ lo ≤ k := by
 rcases h with h | h | h | ⟨p', g, hg, hk⟩
 ·exact .inl (.inl h)
 ·exact .inl (.inr (.inl h))
 ·exact .inl (.inr (.inr (.inl h)))
 ·rcases updF_cases hg with ⟨_, rfl⟩ | ⟨_, hF⟩
  ·rcases hk with rfl | rfl
   ·exact .inr h1
   ·exact .inr h2
  ·exact .inl (.inr (.inr (.inr ⟨p', g, hF, hk⟩)))
theorem add_bok_last {M : Nat → Prop} {W : World} {b me mf : Nat} {laid : Int} {ce cf : Nat} {ge gf : Lit → Option Addr} {F : Lit → Option Fam} {E : List En} (h : BOK M W b me mf laid ce cf ge gf F E) (hM : Mut M W) (hbig : laid < 1099511627776) {n : Nat} (th tb : Tm (n + 1)) (hTH : IsT W.heap.size W th) (hTB : IsT W.heap.size W tb) (hl : 2 * ((code th).length + (code tb).length + 1) ≤ 4194304) (hrem : remE th tb = 0) (hnum : numC (code th)) (hn38 : n ≤ 274877906944 := by omega) :
  Calls Tryz.prog 8 #[.pointer (some ⟨b, 0, none⟩), clV th.tv tb.tv, .bool false] W fun e W' => e = .returned (.tuple #[.int .i64 (laid + 1), .int .i64 0]) ∧ Added M W b me mf laid F E (laid + 1) (code th) (code tb) W' := by
 obtain ⟨okh, okb⟩ : okT th = true ∧ okT tb = true := by
  unfold remE at hrem
  split at hrem
  ·assumption
  ·cases hrem
 have hcn := h.cnt
 have hlow := h.low
 have nf := fun k (hk : M k) => (hM k hk).2
 have ho : (code th).all okM = true ∧ (code tb).all okM = true ∧ numC (code th) := ⟨by rw [← okT_m]; exact okh, by rw [← okT_m]; exact okb, hnum⟩
 have hgs : ∀ s : ByteArray, s.toList = th.tv.s.toList → predL s th.tv.len = predC (code th) := fun s hs => by
  rw [← predL_code]
  unfold predL
  rw [← ByteArray.toList_eq, ← ByteArray.toList_eq, hs]
 have hkey : ∀ {m : Nat} (t : Tm (m + 1)) (V : World) (kl : Lit), code t = code th → IsT V.heap.size V t → keyOf Tryz.prog 89 (keyOfV t) = some kl → kl = keyC (code th) := fun t V kl hc hT hk => by
  have := keyOf_code t hT (by rw [okT_m, hc]; exact ho.1) (by rw [hc]; exact hnum)
  rw [hk, hc] at this
  exact Option.some.inj this
 cases hp : F (predC (code th)) with
 | none =>
  refine (add_last b me mf laid ce cf ge gf th tb W h.base h.ent h.fam (by unfold maxLen; omega) (by unfold maxLen; omega) hlow (by omega) h.far hTH hTB hl hrem hnum (fun s hs => by rw [hgs s hs, h.gfs, hp]; rfl)).mono ?_
  rintro e W' ⟨rfl, eb, fb, km, q1, q2, hx, bx, kl, A, g⟩
  obtain ⟨m, t, V, k1, k2, k3, k4⟩ := A.key
  obtain rfl := hkey t V kl k2 k3 k4
  have hpr : predL hx.s hx.len = predC (code th) := by rw [← k1, predL_code, k2]
  obtain ⟨hB, hM'⟩ := h.addN hM (x := ⟨eb, laid + 1, hx, bx, code th, code tb⟩) hp (by simp) hpr A g ho
  refine ⟨rfl, _, fun k hk => .inl hk, fun k hk => ?_, hM', ⟨g.os, g.tape, g.output, g.size, fun k hk hn => g.block k hk (fun e => hn ?_)⟩, _, _, _, _, _, _, rfl, rfl, rfl, fun k hk => own_new A.los.2.1 A.los.2.2.1 hk, hB, fun p => updF_more p⟩
  ·rcases hk with hk | rfl | rfl
   ·exact .inl hk
   ·exact .inr A.los.2.1
   ·exact .inr A.los.2.2.1
  ·rcases e with e | e | e
   ·exact .inl e
   ·exact .inr (.inl e)
   ·exact .inr (.inr (.inl e))
 | some f =>
  obtain ⟨f1, f2, f3, ⟨t1, f4⟩, f5⟩ := h.fams _ f hp
  obtain ⟨p1, p2, p3, p4⟩ := h.rowsP hbig (predC (code th))
  have hpm := h.mem.2.2.2 _ f hp
  have hfar := h.farF _ f hp
  refine (addk_last b me mf laid ce cf ge gf f.fb f.km f.ck f.all f.gk (fun eb => WR W (laid + 1) eb) th tb W h.base h.ent h.fam (by unfold maxLen; omega) (by unfold maxLen; omega) hlow (by omega) h.far hTH hTB hl hrem hnum (fun s hs => by rw [hgs s hs, h.gfs, hp]; rfl) f1 f2 (by unfold maxLen; omega) hfar ?_ ?_ ?_).mono ?_
  ·intro eb hx bx V _ hen gV
   exact withR f4 p1 p2 (fun y hy => by have := p3 y hy; omega) p4 (gV.fixed (fun k hk => by rcases hk with rfl | rfl; exact nf _ h.mem.1; exact nf _ h.mem.2.1)) hen
  ·intro eb hx bx V kl _ hen gV _ _ _
   obtain ⟨t2, f6⟩ := f5 kl
   obtain ⟨r1, r2, r3, r4⟩ := h.rowsK hbig (predC (code th)) kl
   exact withR f6 r1 r2 (fun y hy => by have := r3 y hy; omega) r4 (gV.fixed (fun k hk => by rcases hk with rfl | rfl | rfl; exact nf _ h.mem.1; exact nf _ h.mem.2.1; exact nf _ hpm.1)) hen
  ·intro eb p q V V' hr _ gV a1 a2
   exact hr.gr gV a1 a2
  ·rintro e W' ⟨rfl, eb, q1, q2, hx, bx, kl, A, ⟨m, t, V, k1, k2, k3, k4⟩, R1, R2, g⟩
   obtain rfl := hkey t V kl k2 k3 k4
   obtain ⟨hB, hM'⟩ := h.addK hM (x := ⟨eb, laid + 1, hx, bx, code th, code tb⟩) hp (by simp) A R1 R2 g ho
   refine ⟨rfl, M, fun k hk => hk, fun k hk => .inl hk, hM', ⟨g.os, g.tape, g.output, g.size, fun k hk hn => g.block k hk (fun e => hn ?_)⟩, _, _, _, _, _, _, rfl, rfl, rfl, ?_, hB, fun p => updF_more p⟩
   ·rcases e with e | e | e
    ·exact .inl e
    ·exact .inr (.inl e)
    ·exact .inr (.inr (.inr ⟨_, f, hp, e⟩))
   ·exact fun k hk => .inl (own_upd hp (by rfl) (by rfl) hk)
theorem add_bok_first {M : Nat → Prop} {W : World} {b me mf : Nat} {laid : Int} {ce cf : Nat} {ge gf : Lit → Option Addr} {F : Lit → Option Fam} {E : List En} (h : BOK M W b me mf laid ce cf ge gf F E) (hM : Mut M W) (hbig : laid < 1099511627776) {n : Nat} (th tb : Tm (n + 1)) (hTH : IsT W.heap.size W th) (hTB : IsT W.heap.size W tb) (hl : 2 * ((code th).length + (code tb).length + 1) ≤ 4194304) (hrem : remE th tb = 0) (hnum : numC (code th)) (hn38 : n ≤ 274877906944 := by omega) :
  Calls Tryz.prog 8 #[.pointer (some ⟨b, 0, none⟩), clV th.tv tb.tv, .bool true] W fun e W' => e = .returned (.tuple #[.int .i64 (laid + 1), .int .i64 0]) ∧ Added M W b me mf laid F E (-(laid + 1)) (code th) (code tb) W' := by
 obtain ⟨okh, okb⟩ : okT th = true ∧ okT tb = true := by
  unfold remE at hrem
  split at hrem
  ·assumption
  ·cases hrem
 have hcn := h.cnt
 have hlow := h.low
 have nf := fun k (hk : M k) => (hM k hk).2
 have ho : (code th).all okM = true ∧ (code tb).all okM = true ∧ numC (code th) := ⟨by rw [← okT_m]; exact okh, by rw [← okT_m]; exact okb, hnum⟩
 have hgs : ∀ s : ByteArray, s.toList = th.tv.s.toList → predL s th.tv.len = predC (code th) := fun s hs => by
  rw [← predL_code]
  unfold predL
  rw [← ByteArray.toList_eq, ← ByteArray.toList_eq, hs]
 have hkey : ∀ {m : Nat} (t : Tm (m + 1)) (V : World) (kl : Lit), code t = code th → IsT V.heap.size V t → keyOf Tryz.prog 89 (keyOfV t) = some kl → kl = keyC (code th) := fun t V kl hc hT hk => by
  have := keyOf_code t hT (by rw [okT_m, hc]; exact ho.1) (by rw [hc]; exact hnum)
  rw [hk, hc] at this
  exact Option.some.inj this
 cases hp : F (predC (code th)) with
 | none =>
  refine (add_first b me mf laid ce cf ge gf th tb W h.base h.ent h.fam (by unfold maxLen; omega) (by unfold maxLen; omega) hlow (by omega) h.far hTH hTB hl hrem hnum (fun s hs => by rw [hgs s hs, h.gfs, hp]; rfl)).mono ?_
  rintro e W' ⟨rfl, eb, fb, km, q1, q2, hx, bx, kl, A, g⟩
  obtain ⟨m, t, V, k1, k2, k3, k4⟩ := A.key
  obtain rfl := hkey t V kl k2 k3 k4
  have hpr : predL hx.s hx.len = predC (code th) := by rw [← k1, predL_code, k2]
  obtain ⟨hB, hM'⟩ := h.addN hM (x := ⟨eb, -(laid + 1), hx, bx, code th, code tb⟩) hp (by simp) hpr A g ho
  refine ⟨rfl, _, fun k hk => .inl hk, fun k hk => ?_, hM', ⟨g.os, g.tape, g.output, g.size, fun k hk hn => g.block k hk (fun e => hn ?_)⟩, _, _, _, _, _, _, rfl, rfl, rfl, fun k hk => own_new A.los.2.1 A.los.2.2.1 hk, hB, fun p => updF_more p⟩
  ·rcases hk with hk | rfl | rfl
   ·exact .inl hk
   ·exact .inr A.los.2.1
   ·exact .inr A.los.2.2.1
  ·rcases e with e | e | e
   ·exact .inl e
   ·exact .inr (.inl e)
   ·exact .inr (.inr (.inl e))
 | some f =>
  obtain ⟨f1, f2, f3, ⟨t1, f4⟩, f5⟩ := h.fams _ f hp
  obtain ⟨p1, p2, p3, p4⟩ := h.rowsP hbig (predC (code th))
  have hpm := h.mem.2.2.2 _ f hp
  have hfar := h.farF _ f hp
  refine (addk_first b me mf laid ce cf ge gf f.fb f.km f.ck f.all f.gk (fun eb => WR W (-(laid + 1)) eb) th tb W h.base h.ent h.fam (by unfold maxLen; omega) (by unfold maxLen; omega) hlow (by omega) h.far hTH hTB hl hrem hnum (fun s hs => by rw [hgs s hs, h.gfs, hp]; rfl) f1 f2 (by unfold maxLen; omega) hfar ?_ ?_ ?_).mono ?_
  ·intro eb hx bx V _ hen gV
   exact withR f4 p1 p2 (fun y hy => by have := p3 y hy; omega) p4 (gV.fixed (fun k hk => by rcases hk with rfl | rfl; exact nf _ h.mem.1; exact nf _ h.mem.2.1)) hen
  ·intro eb hx bx V kl _ hen gV _ _ _
   obtain ⟨t2, f6⟩ := f5 kl
   obtain ⟨r1, r2, r3, r4⟩ := h.rowsK hbig (predC (code th)) kl
   exact withR f6 r1 r2 (fun y hy => by have := r3 y hy; omega) r4 (gV.fixed (fun k hk => by rcases hk with rfl | rfl | rfl; exact nf _ h.mem.1; exact nf _ h.mem.2.1; exact nf _ hpm.1)) hen
  ·intro eb p q V V' hr _ gV a1 a2
   exact hr.gr gV a1 a2
  ·rintro e W' ⟨rfl, eb, q1, q2, hx, bx, kl, A, ⟨m, t, V, k1, k2, k3, k4⟩, R1, R2, g⟩
   obtain rfl := hkey t V kl k2 k3 k4
   obtain ⟨hB, hM'⟩ := h.addK hM (x := ⟨eb, -(laid + 1), hx, bx, code th, code tb⟩) hp (by simp) A R1 R2 g ho
   refine ⟨rfl, M, fun k hk => hk, fun k hk => .inl hk, hM', ⟨g.os, g.tape, g.output, g.size, fun k hk hn => g.block k hk (fun e => hn ?_)⟩, _, _, _, _, _, _, rfl, rfl, rfl, ?_, hB, fun p => updF_more p⟩
   ·rcases e with e | e | e
    ·exact .inl e
    ·exact .inr (.inl e)
    ·exact .inr (.inr (.inr ⟨_, f, hp, e⟩))
   ·exact fun k hk => .inl (own_upd hp (by rfl) (by rfl) hk)
/- base.New, (*base.Base).View over BOK. -/
theorem new_bok {M : Nat → Prop} {W : World} (hM : Mut M W) : Calls Tryz.prog 5 #[] W fun e W' => ∃ (b me mf : Nat), e = .returned (.pointer (some ⟨b, 0, none⟩)) ∧ W.heap.size ≤ b ∧ W.heap.size ≤ me ∧ W.heap.size ≤ mf ∧ Below W.heap.size W W' ∧ Mut (fun k => M k ∨ k = b ∨ k = me ∨ k = mf) W' ∧ BOK (fun k => M k ∨ k = b ∨ k = me ∨ k = mf) W' b me mf 0 0 0 (fun _ => none) (fun _ => none) (fun _ => none) [] := by
 refine (new_any W).mono ?_
 rintro e W' ⟨rfl, h1, h2, h3, h4, h5⟩
 refine ⟨W.heap.size + 2, W.heap.size, W.heap.size + 1, rfl, by omega, Nat.le_refl _, by omega, h4, ?_, ?_⟩
 ·intro k hk
  rcases hk with hk | rfl | rfl | rfl
  ·exact (hM.grow (GrB.of_below (X := fun _ => False) h4) (fun _ h => h.elim)) k hk
  ·exact ⟨h1.lt, h1.nofix⟩
  ·exact ⟨h2.lt, h2.mapB.nofix⟩
  ·exact ⟨h3.lt, h3.mapB.nofix⟩
 ·exact {
   base := h1
   ent := h2
   fam := h3
   low := Int.le_refl _
   cnt := by simp
   srt := List.Pairwise.nil
   pls := fun e he => by cases he
   ids := List.Pairwise.nil
   get := fun _ => rfl
   gfs := fun _ => rfl
   fams := fun p f hp => by cases hp
   has := fun e he => by cases he
   ents := fun e he => by cases he
   oks := fun e he => by cases he
   mem := ⟨.inr (.inl rfl), .inr (.inr (.inl rfl)), .inr (.inr (.inr rfl)), fun p f hp => by cases hp⟩
   far := by omega
   farF := fun p f hp => by cases hp
   farP := fun p p' f f' hp => by cases hp }
def keyI : List Nd → Bool
 | _ :: u :: _ => decide (u.1 = 1)
 | _ => true
/-- The rows of entries that a goal is let through to. -/
noncomputable def goalL (E : List En) (c : List Nd) : List (Nat × Int) × List (Nat × Int) := if keyI c = true then (rowP E (predC c), []) else (rowK E (predC c) (keyC c), rowK E (predC c) keyZ)
theorem goal_key {n : Nat} (t : Tm (n + 1)) {W : World} (hT : IsT W.heap.size W t) (hok : okT t = true) (hn : numC (code t)) : (keyI (code t) = true ∧ keyOfV t = keyV 0 0 ⟨#[]⟩ 0) ∨ (keyI (code t) = false ∧ ∃ (k N : Int) (s : ByteArray) (m : Nat), keyOfV t = keyV k N s m ∧ keyC (code t) = keyL k N s m ∧ k ≠ 0 ∧ s.size ≤ maxLen ∧ m ≤ 9223372036854775807 ∧ -9223372036854775808 ≤ k ∧ k ≤ 9223372036854775807 ∧ -9223372036854775808 ≤ N ∧ N ≤ 9223372036854775807) := by
 obtain ⟨x, kids⟩ := t
 obtain ⟨h1, h2, h3, h4⟩ := hT
 have hk := ok_kids hok
 unfold keyOfV
 cases kids with
 | nil => exact .inl ⟨rfl, rfl⟩
 | cons u r =>
  cases n with
  | zero => exact Empty.elim u
  | succ n =>
   have hc : code (n := n + 1 + 1) ((x, u :: r) : TV × List (Tm (n + 1))) = x.nd :: u.tv.nd :: (u.kids.flatMap code ++ r.flatMap code) := by
    rw [code_succ, List.flatMap_cons, code_kids u]
    rfl
   rw [hc]
   by_cases hk1 : u.tv.k = 1
   ·have e : keyOfT (n := n + 1) ((x, u :: r) : TV × List (Tm (n + 1))) = (0, 0, ⟨#[]⟩, 0) := by unfold keyOfT; simp [Tm.kids, hk1]
    rw [e]
    exact .inl ⟨by simp [keyI, TV.nd, hk1], rfl⟩
   ·have e : keyOfT (n := n + 1) ((x, u :: r) : TV × List (Tm (n + 1))) = (u.tv.k, u.tv.N, u.tv.s, u.tv.len) := by unfold keyOfT; simp [Tm.kids, hk1]
    rw [e]
    have oku := hk.2 u (by simp)
    have hTu : IsT W.heap.size W u := by
     rcases h4 with h4 | ⟨b, off, _, _, hk'⟩
     ·cases h4
     ·exact (hk' 0 u rfl).2
    have hsu : u.tv.s.size ≤ 9223372036854775807 := hTu.2.2.1
    have hnu := hn u.tv.nd (by rw [hc]; simp)
    have hNu : -9223372036854775808 ≤ u.tv.N ∧ u.tv.N ≤ 9223372036854775807 := hnu
    have hkl : u.tv.k ≤ 4 ∧ 1 ≤ u.tv.k ∧ u.tv.len ≤ 50 := by
     rcases wm_cases (ok_top oku) with ⟨h, _, _, _, h'⟩ | ⟨h, h'⟩ | ⟨h, _, _, h'⟩ <;> omega
    exact .inr ⟨by simp [keyI, TV.nd, hk1], u.tv.k, u.tv.N, u.tv.s, u.tv.len, rfl, by simp [keyC, TV.nd, hk1, keyN, keyL, ByteArray.toList_eq], by omega, by unfold maxLen; omega, by omega, by omega, by omega, hNu.1, hNu.2⟩
theorem view_bok {M : Nat → Prop} {W : World} {b me mf : Nat} {laid : Int} {ce cf : Nat} {ge gf : Lit → Option Addr} {F : Lit → Option Fam} {E : List En} (h : BOK M W b me mf laid ce cf ge gf F E) {n : Nat} (tg : Tm (n + 1)) (hT : IsT W.heap.size W tg) (hok : okT tg = true) (hcall : (decide (tg.tv.k = 3) || decide (tg.tv.k = 4)) = true) (hn : numC (code tg)) :
  Calls Tryz.prog 13 #[.pointer (some ⟨b, 0, none⟩), tg.tv.val] W fun e W' => ∃ (vb : Nat) (p q : Option Addr), e = .returned (.tuple #[.pointer (some ⟨vb, 0, none⟩), .int .i64 0]) ∧ W.heap.size ≤ vb ∧ VwBlk W' vb p q (-9223372036854775808) ∧ Below W.heap.size W W' ∧ (∃ h1, TrL W p (goalL E (code tg)).1 h1) ∧ ∃ h2, TrL W q (goalL E (code tg)).2 h2 := by
 have hgp : gf (predL tg.tv.s tg.tv.len) = (F (predC (code tg))).map (fun f => ⟨f.fb, 0, none⟩) := by rw [predL_code, h.gfs]
 cases hp : F (predC (code tg)) with
 | none =>
  rw [hp] at hgp
  have hno : ∀ e ∈ E, predC e.ch ≠ predC (code tg) := fun e he e' => by
   obtain ⟨f, hf'⟩ := h.has e he
   rw [e', hp] at hf'
   cases hf'
  refine (view_unknown b me mf laid cf gf tg W h.base h.fam hT hok hcall hgp).mono ?_
  rintro e W' ⟨vb, rfl, h1, h2, h3⟩
  refine ⟨vb, none, none, rfl, h1, h2, h3, ?_⟩
  have e0 : goalL E (code tg) = ([], []) := by
   unfold goalL
   rw [rowP_none hno, rowK_none hno, rowK_none hno]
   split <;> rfl
  rw [e0]
  exact ⟨⟨0, TrL.nil _⟩, 0, TrL.nil _⟩
 | some f =>
  rw [hp] at hgp
  obtain ⟨f1, f2, f3, f4, f5⟩ := h.fams _ f hp
  rcases goal_key tg hT hok hn with ⟨i1, i2⟩ | ⟨i1, k, N, s, m, i2, i3, k0, ks, km, ka, kb, na, nb⟩
  ·refine (view_known b me mf f.fb laid cf gf f.all none tg W h.base h.fam hT hok hcall (fun V hV => by rw [i2]; exact letThrough_all f.fb f.km f.all V ((hV.block _ f1.lt).trans f1)) hgp).mono ?_
   rintro e W' ⟨vb, rfl, h1, h2, h3⟩
   refine ⟨vb, f.all, none, rfl, h1, h2, h3, ?_⟩
   unfold goalL
   rw [if_pos i1]
   exact ⟨f4, 0, TrL.nil _⟩
  ·refine (view_known b me mf f.fb laid cf gf (f.gk (keyL k N s m)) (f.gk (keyL 0 0 ⟨#[]⟩ 0)) tg W h.base h.fam hT hok hcall (fun V hV => by rw [i2]; exact letThrough_key f.fb f.km f.ck f.all f.gk k N s m V ((hV.block _ f1.lt).trans f1) (f2.kept (hV.block _ f2.lt)) k0 ks km ka kb na nb) hgp).mono ?_
   rintro e W' ⟨vb, rfl, h1, h2, h3⟩
   refine ⟨vb, _, _, rfl, h1, h2, h3, ?_⟩
   unfold goalL
   rw [if_neg (by rw [i1]; simp), i3]
   exact ⟨f5 _, f5 _⟩
/- Views over entries: what the next one is, by entries; two rows that say the same. -/
def SameE (A B : List En) : Prop := A.map En.say = B.map En.say
theorem SameE.cons {a b : En} {A B : List En} (h : SameE (a :: A) (b :: B)) : a.say = b.say ∧ SameE A B := by
 unfold SameE at h ⊢
 simpa using h
theorem SameE.filter {A : List En} : ∀ {B : List En}, SameE A B → ∀ f : Int × List Nd × List Nd → Bool, SameE (A.filter (fun e => f e.say)) (B.filter (fun e => f e.say)) := by
 induction A with
 | nil =>
  intro B h f
  cases B with
  | nil => rfl
  | cons b B => simp [SameE] at h
 | cons a A ih =>
  intro B h f
  cases B with
  | nil => simp [SameE] at h
  | cons b B =>
   obtain ⟨h1, h2⟩ := h.cons
   have h3 := ih h2 f
   unfold SameE at h3 ⊢
   by_cases hf : f a.say = true
   ·rw [List.filter_cons_of_pos (p := fun e : En => f e.say) hf, List.filter_cons_of_pos (p := fun e : En => f e.say) (by show f b.say = true; rw [← h1]; exact hf), List.map_cons, List.map_cons, h1, h3]
   ·rw [List.filter_cons_of_neg (p := fun e : En => f e.say) hf, List.filter_cons_of_neg (p := fun e : En => f e.say) (by show ¬ f b.say = true; rw [← h1]; exact hf), h3]
theorem SameE.ins {A B : List En} (h : SameE A B) {x y : En} (hxy : x.say = y.say) : SameE (insE A x) (insE B y) := by
 have hp : x.pl = y.pl := congrArg (·.1) hxy
 have h1 := h.filter (fun s => decide (s.1 < x.pl))
 have h2 := h.filter (fun s => decide (x.pl ≤ s.1))
 unfold SameE at h1 h2 ⊢
 unfold insE
 rw [List.map_append, List.map_append, List.map_cons, List.map_cons, hxy, ← hp]
 have e1 : ∀ (L : List En), L.filter (fun e => (fun s : Int × List Nd × List Nd => decide (s.1 < x.pl)) e.say) = L.filter (fun z => decide (z.pl < x.pl)) := fun L => rfl
 have e2 : ∀ (L : List En), L.filter (fun e => (fun s : Int × List Nd × List Nd => decide (x.pl ≤ s.1)) e.say) = L.filter (fun z => decide (x.pl ≤ z.pl)) := fun L => rfl
 rw [e1, e1] at h1
 rw [e2, e2] at h2
 rw [h1, h2]
def nextN (A : List En) (last : Int) : Option En := A.find? (fun e => decide (last < e.pl))
theorem nextE_at (A : List En) (last : Int) : nextE (A.map En.at) last = (nextN A last).map En.at := by
 unfold nextE nextN
 rw [List.find?_map]
 rfl
theorem nextN_same {A : List En} : ∀ {B : List En}, SameE A B → ∀ last, (nextN A last).map En.say = (nextN B last).map En.say := by
 induction A with
 | nil =>
  intro B h last
  cases B with
  | nil => rfl
  | cons b B => simp [SameE] at h
 | cons a A ih =>
  intro B h last
  cases B with
  | nil => simp [SameE] at h
  | cons b B =>
   obtain ⟨h1, h2⟩ := h.cons
   have hp : a.pl = b.pl := congrArg (·.1) h1
   unfold nextN
   by_cases hl : last < a.pl
   ·rw [List.find?_cons_of_pos (by simpa using hl), List.find?_cons_of_pos (by simp; omega)]
    simp [h1]
   ·rw [List.find?_cons_of_neg (by simpa using hl), List.find?_cons_of_neg (by simp; omega)]
    exact ih h2 last
def earN : Option En → Option En → Option En
 | none, y => y
 | some x, none => some x
 | some x, some y => if y.pl < x.pl then some y else some x
theorem earE_at (x y : Option En) : earE (x.map En.at) (y.map En.at) = (earN x y).map En.at := by
 cases x <;> cases y <;> simp only [Option.map_none, Option.map_some, earE, earN]
 rename_i a b
 by_cases h : b.pl < a.pl
 ·rw [if_pos h, if_pos (show b.at.2 < a.at.2 from h)]
  rfl
 ·rw [if_neg h, if_neg (show ¬ b.at.2 < a.at.2 from h)]
  rfl
theorem earN_same {x y x' y' : Option En} (h1 : x.map En.say = x'.map En.say) (h2 : y.map En.say = y'.map En.say) : (earN x y).map En.say = (earN x' y').map En.say := by
 cases x <;> cases x' <;> simp at h1 <;> cases y <;> cases y' <;> simp at h2 <;> simp only [earN, Option.map_none, Option.map_some, h1, h2]
 rename_i a b c d
 have p1 : a.pl = b.pl := congrArg (·.1) h1
 have p2 : c.pl = d.pl := congrArg (·.1) h2
 rw [p1, p2]
 split <;> simp [h1, h2]
def stepN (A1 A2 : List En) (last : Int) : Option En := earN (nextN A1 last) (nextN A2 last)
theorem stepN_at (A1 A2 : List En) (last : Int) : earE (nextE (A1.map En.at) last) (nextE (A2.map En.at) last) = (stepN A1 A2 last).map En.at := by
 rw [nextE_at, nextE_at, earE_at]
 rfl
theorem stepN_same {A1 A2 B1 B2 : List En} (h1 : SameE A1 B1) (h2 : SameE A2 B2) (last : Int) : (stepN A1 A2 last).map En.say = (stepN B1 B2 last).map En.say :=
 earN_same (nextN_same h1 last) (nextN_same h2 last)
theorem nextN_in {A : List En} {last : Int} {e : En} (h : nextN A last = some e) : e ∈ A ∧ last < e.pl :=
 ⟨List.mem_of_find?_eq_some h, by simpa using List.find?_some h⟩
theorem earN_in {x y : Option En} {e : En} (h : earN x y = some e) : x = some e ∨ y = some e := by
 cases x <;> cases y <;> simp only [earN] at h
 ·cases h
 ·exact .inr h
 ·exact .inl h
 ·split at h
  ·exact .inr h
  ·exact .inl h
theorem stepN_in {A1 A2 : List En} {last : Int} {e : En} (h : stepN A1 A2 last = some e) : e ∈ A1 ++ A2 ∧ last < e.pl := by
 rcases earN_in h with h | h
 ·exact ⟨List.mem_append_left _ (nextN_in h).1, (nextN_in h).2⟩
 ·exact ⟨List.mem_append_right _ (nextN_in h).1, (nextN_in h).2⟩
def restN (A : List En) (last : Int) : Nat := (A.filter (fun e => decide (last < e.pl))).length
theorem restN_le {A : List En} {p q : Int} (h : p ≤ q) : restN A q ≤ restN A p := by
 unfold restN
 induction A with
 | nil => exact Nat.le_refl _
 | cons a A ih =>
  by_cases h1 : q < a.pl
  ·rw [List.filter_cons_of_pos (by simpa using h1), List.filter_cons_of_pos (by simp; omega)]
   simp only [List.length_cons]
   omega
  ·rw [List.filter_cons_of_neg (by simpa using h1)]
   by_cases h2 : p < a.pl
   ·rw [List.filter_cons_of_pos (by simpa using h2)]
    simp only [List.length_cons]
    omega
   ·rw [List.filter_cons_of_neg (by simpa using h2)]
    exact ih
theorem restN_lt {A : List En} {p : Int} {e : En} (he : e ∈ A) (hp : p < e.pl) : restN A e.pl < restN A p := by
 unfold restN
 induction A with
 | nil => cases he
 | cons a A ih =>
  rcases List.mem_cons.1 he with rfl | he
  ·rw [List.filter_cons_of_neg (by simp), List.filter_cons_of_pos (by simpa using hp)]
   simp only [List.length_cons]
   have := restN_le (A := A) (p := p) (q := e.pl) (by omega)
   unfold restN at this
   omega
  ·have := ih he
   by_cases h1 : e.pl < a.pl
   ·rw [List.filter_cons_of_pos (by simpa using h1), List.filter_cons_of_pos (by simp; omega)]
    simp only [List.length_cons]
    omega
   ·rw [List.filter_cons_of_neg (by simpa using h1)]
    by_cases h2 : p < a.pl
    ·rw [List.filter_cons_of_pos (by simpa using h2)]
     simp only [List.length_cons]
     omega
    ·rw [List.filter_cons_of_neg (by simpa using h2)]
     exact this
def restV (A1 A2 : List En) (last : Int) : Nat := restN A1 last + restN A2 last
theorem restV_lt {A1 A2 : List En} {last : Int} {e : En} (h : stepN A1 A2 last = some e) : restV A1 A2 e.pl < restV A1 A2 last := by
 obtain ⟨h1, h2⟩ := stepN_in h
 unfold restV
 rcases List.mem_append.1 h1 with h1 | h1
 ·have := restN_lt h1 h2
  have := restN_le (A := A2) (p := last) (q := e.pl) (by omega)
  omega
 ·have := restN_lt h1 h2
  have := restN_le (A := A1) (p := last) (q := e.pl) (by omega)
  omega
open Classical in
noncomputable def rowPN (E : List En) (p : Lit) : List En := E.filter (fun e => decide (predC e.ch = p))
open Classical in
noncomputable def rowKN (E : List En) (p k : Lit) : List En := E.filter (fun e => decide (predC e.ch = p ∧ keyC e.ch = k))
theorem rowPN_same {A B : List En} (h : SameE A B) (p : Lit) : SameE (rowPN A p) (rowPN B p) := by
 classical
 exact h.filter (fun s => decide (predC s.2.1 = p))
theorem rowKN_same {A B : List En} (h : SameE A B) (p k : Lit) : SameE (rowKN A p k) (rowKN B p k) := by
 classical
 exact h.filter (fun s => decide (predC s.2.1 = p ∧ keyC s.2.1 = k))
/-- The entries that a goal is let through to. -/
noncomputable def goalN (E : List En) (c : List Nd) : List En × List En := if keyI c = true then (rowPN E (predC c), []) else (rowKN E (predC c) (keyC c), rowKN E (predC c) keyZ)
theorem goalN_at (E : List En) (c : List Nd) : goalL E c = ((goalN E c).1.map En.at, (goalN E c).2.map En.at) := by
 unfold goalL goalN
 split <;> rfl
theorem goalN_same {A B : List En} (h : SameE A B) (c : List Nd) : SameE (goalN A c).1 (goalN B c).1 ∧ SameE (goalN A c).2 (goalN B c).2 := by
 unfold goalN
 split
 ·exact ⟨rowPN_same h _, rfl⟩
 ·exact ⟨rowKN_same h _ _, rowKN_same h _ _⟩
theorem goalN_in {E : List En} {c : List Nd} {e : En} (h : e ∈ (goalN E c).1 ++ (goalN E c).2) : e ∈ E := by
 unfold goalN at h
 split at h
 ·rw [List.append_nil] at h
  exact (List.mem_filter.1 h).1
 ·rcases List.mem_append.1 h with h | h <;> exact (List.mem_filter.1 h).1
theorem goalN_srt {E : List En} (h : SrtE E) (c : List Nd) : Srt ((goalN E c).1.map En.at) ∧ Srt ((goalN E c).2.map En.at) := by
 unfold goalN
 split
 ·exact ⟨h.row _, List.Pairwise.nil⟩
 ·exact ⟨h.row _, h.row _⟩
end Go.Proofs.YtlbobmebbllifaaGreat
