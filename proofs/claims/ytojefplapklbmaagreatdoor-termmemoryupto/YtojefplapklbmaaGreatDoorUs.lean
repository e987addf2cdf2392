import Derived.Test.YtojefplapklbmaaGreatDoorPs
import Derived.Test.YtojefplapklbmaaGreatDoorG
import Derived.Maps.AppendAt
/- Terms that share memory (BlkT, HoldsS), lifted to more storeys; rows of terms that a call owns; the contracts of hornref.V and hornref.Find. -/
namespace Go.Proofs.YtojefplapklbmaaGreatDoor
open Go.RowKit Go.Shelf

/-- One storey more. -/
def Tm.lift : {n : Nat} → Tm n → Tm (n + 1)
  | 0, t => Empty.elim t
  | _ + 1, t => (t.tv, t.kids.map Tm.lift)
/-- Every block of the term's own memory is in S. -/
def BlkT (S : Nat → Prop) : {n : Nat} → Tm n → Prop
  | 0, _ => True
  | _ + 1, t => (t.kids = [] ∨ ∃ b off, t.tv.a = some ⟨b, off, none⟩ ∧ S b) ∧ ∀ u ∈ t.kids, BlkT S u
theorem BlkT.mono {S S' : Nat → Prop} (h : ∀ b, S b → S' b) : ∀ {n : Nat} {t : Tm n}, BlkT S t → BlkT S' t := by
  intro n
  induction n with
  | zero => intro t; exact Empty.elim t
  | succ n ih =>
    intro t ht
    obtain ⟨h1, h2⟩ := ht
    refine ⟨?_, fun u hu => ih (h2 u hu)⟩
    rcases h1 with h1 | ⟨b, off, ha, hb⟩
    · exact .inl h1
    · exact .inr ⟨b, off, ha, h b hb⟩
theorem BlkT.and {S S' : Nat → Prop} : ∀ {n : Nat} {t : Tm n}, BlkT S t → BlkT S' t → BlkT (fun b => S b ∧ S' b) t := by
  intro n
  induction n with
  | zero => intro t; exact Empty.elim t
  | succ n ih =>
    intro t ht ht'
    obtain ⟨h1, h2⟩ := ht
    obtain ⟨k1, k2⟩ := ht'
    refine ⟨?_, fun u hu => ih (h2 u hu) (k2 u hu)⟩
    rcases h1 with h1 | ⟨b, off, ha, hb⟩
    · exact .inl h1
    · rcases k1 with k1 | ⟨b', off', ha', hb'⟩
      · exact .inl k1
      · rw [ha] at ha'; simp at ha'; obtain ⟨rfl, rfl⟩ := ha'
        exact .inr ⟨b, off, ha, hb, hb'⟩
theorem IsT.blk {n₀ : Nat} {W : World} : ∀ {n : Nat} {t : Tm n}, IsT n₀ W t → BlkT (· < n₀) t := by
  intro n
  induction n with
  | zero => intro t; exact Empty.elim t
  | succ n ih =>
    intro t ht
    obtain ⟨_, _, _, h4⟩ := ht
    rcases h4 with h4 | ⟨b, off, ha, hb, hk⟩
    · exact ⟨.inl h4, fun u hu => by rw [h4] at hu; cases hu⟩
    · exact ⟨.inr ⟨b, off, ha, hb⟩, fun u hu => by
        obtain ⟨j, hj⟩ := List.mem_iff_getElem?.1 hu
        exact ih (hk j u hj).2⟩
theorem NewT.blk {lo : Nat} : ∀ {n : Nat} {t : Tm n}, NewT lo t → BlkT (lo ≤ ·) t := by
  intro n
  induction n with
  | zero => intro t; exact Empty.elim t
  | succ n ih =>
    intro t ht
    exact ⟨ht.1, fun u hu => ih (ht.2 u hu)⟩
/-- What is in S lies as it lay: so does the term. -/
theorem IsT.fromS {n₀ : Nat} {S : Nat → Prop} {A B : World} (hs : ∀ b, S b → B.heap[b]? = A.heap[b]?) : ∀ {n : Nat} {t : Tm n}, IsT n₀ A t → BlkT S t → IsT n₀ B t := by
  intro n
  induction n with
  | zero => intro t; exact Empty.elim t
  | succ n ih =>
    intro t ht hn
    obtain ⟨h1, h2, h3, h4⟩ := ht
    obtain ⟨k1, k2⟩ := hn
    rcases h4 with h4 | ⟨b, off, ha, hb, hk⟩
    · exact ⟨h1, h2, h3, .inl h4⟩
    · rcases k1 with k1 | ⟨b', off', ha', hlo⟩
      · exact ⟨h1, h2, h3, .inl k1⟩
      · rw [ha] at ha'
        simp at ha'
        obtain ⟨rfl, rfl⟩ := ha'
        refine ⟨h1, h2, h3, .inr ⟨b, off, ha, hb, fun j u hu => ?_⟩⟩
        obtain ⟨hc, hT⟩ := hk j u hu
        exact ⟨hc.kept (hs b hlo), ih hT (k2 u (List.mem_of_getElem? hu))⟩

theorem lift_tv : ∀ {n : Nat} (t : Tm n), t.lift.tv = t.tv
  | 0, t => Empty.elim t
  | _ + 1, _ => rfl
theorem flatMap_same {α β : Type} {f g : α → List β} : ∀ (l : List α), (∀ u ∈ l, f u = g u) → l.flatMap f = l.flatMap g
  | [], _ => rfl
  | a :: l, h => by rw [List.flatMap_cons, List.flatMap_cons, h a (by simp), flatMap_same l (fun u hu => h u (by simp [hu]))]
theorem lift_code : ∀ {n : Nat} (t : Tm n), code t.lift = code t := by
  intro n
  induction n with
  | zero => intro t; exact Empty.elim t
  | succ n ih =>
    intro t
    obtain ⟨x, kids⟩ := t
    show code (n := n + 1 + 1) ((x, kids.map Tm.lift) : TV × List (Tm (n + 1))) = _
    rw [code_succ, code_succ, List.flatMap_map]
    congr 1
    exact flatMap_same kids (fun u _ => ih u)
theorem lift_isT {n₀ : Nat} {W : World} : ∀ {n : Nat} {t : Tm n}, IsT n₀ W t → n + 1 ≤ 2199023255552 → IsT n₀ W t.lift := by
  intro n
  induction n with
  | zero => intro t; exact Empty.elim t
  | succ n ih =>
    intro t ht hlim
    obtain ⟨x, kids⟩ := t
    obtain ⟨h1, h2, h3, h4⟩ := ht
    simp only [Tm.tv, Tm.kids] at h1 h2 h3 h4
    have hl : x.len = (kids.map Tm.lift).length := by simpa using h1
    rcases h4 with h4 | ⟨b, off, ha, hb, hk⟩
    · exact ⟨hl, ⟨h2.1, h2.2.1, hlim⟩, h3, .inl (by show kids.map Tm.lift = []; rw [h4]; rfl)⟩
    · refine ⟨hl, ⟨h2.1, h2.2.1, hlim⟩, h3, .inr ⟨b, off, ha, hb, fun j u hu => ?_⟩⟩
      have hu' : (kids.map Tm.lift)[j]? = some u := hu
      rw [List.getElem?_map] at hu'
      obtain ⟨v, hv, rfl⟩ := Option.map_eq_some_iff.1 hu'
      obtain ⟨k1, k2⟩ := hk j v hv
      exact ⟨by rw [lift_tv]; exact k1, ih k2 (by omega)⟩
theorem lift_isW {n₀ : Nat} {W : World} {n : Nat} {t : Tm n} (h : IsW n₀ W t) : IsW n₀ W t.lift := fun hl => lift_isT (h (by omega)) hl
theorem lift_blk {S : Nat → Prop} : ∀ {n : Nat} {t : Tm n}, BlkT S t → BlkT S t.lift := by
  intro n
  induction n with
  | zero => intro t; exact Empty.elim t
  | succ n ih =>
    intro t ht
    obtain ⟨x, kids⟩ := t
    obtain ⟨h1, h2⟩ := ht
    refine ⟨?_, fun u hu => ?_⟩
    · rcases h1 with h1 | h1
      · exact .inl (by show kids.map Tm.lift = []; rw [show kids = [] from h1]; rfl)
      · exact .inr h1
    · have hu' : u ∈ kids.map Tm.lift := hu
      obtain ⟨v, hv, rfl⟩ := List.mem_map.1 hu'
      exact ih (h2 v hv)

/-- The value v is a term of the code c, at every number of storeys from D on, its memory in S. -/
def HoldsS (D : Nat) (S : Nat → Prop) (W : World) (v : Value) (c : List Nd) : Prop :=
  ∀ m, D ≤ m → m ≤ 2199023255552 → ∃ t : Tm m, v = t.tv.val ∧ IsT W.heap.size W t ∧ BlkT S t ∧ code t = c
theorem holdsS_of {n : Nat} {t : Tm n} {S : Nat → Prop} {W : World} (hT : IsT W.heap.size W t) (hS : BlkT S t) : HoldsS n S W t.tv.val (code t) := fun m hm hl => by
  obtain ⟨k, rfl⟩ : ∃ k, m = n + k := ⟨m - n, by omega⟩
  clear hm
  induction k with
  | zero => exact ⟨t, rfl, hT, hS, rfl⟩
  | succ k ih =>
    obtain ⟨t', h1, h2, h3, h4⟩ := ih (by omega)
    exact ⟨t'.lift, by rw [lift_tv]; exact h1, lift_isT h2 hl, lift_blk h3, by rw [lift_code]; exact h4⟩
theorem HoldsT.holdsS {D lo : Nat} {W : World} {v : Value} {c : List Nd} (h : HoldsT D lo W v c) : HoldsS D (lo ≤ ·) W v c := fun m hm hl => by
  obtain ⟨t, h1, h2, h3, h4⟩ := h m hm
  exact ⟨t, h1, h2 hl, h3.new.blk, h4⟩
theorem HoldsS.mono {D D' : Nat} {S S' : Nat → Prop} {W : World} {v : Value} {c : List Nd} (h : HoldsS D S W v c) (hD : D ≤ D') (hS : ∀ b, S b → S' b) : HoldsS D' S' W v c := fun m hm hl => by
  obtain ⟨t, h1, h2, h3, h4⟩ := h m (by omega) hl
  exact ⟨t, h1, h2, h3.mono hS, h4⟩
theorem HoldsS.below {D : Nat} {S : Nat → Prop} {A B : World} {v : Value} {c : List Nd} (h : HoldsS D S A v c) (hb : Below A.heap.size A B) : HoldsS D S B v c := fun m hm hl => by
  obtain ⟨t, h1, h2, h3, h4⟩ := h m hm hl
  exact ⟨t, h1, (h2.below hb).mono hb.size, h3, h4⟩
theorem HoldsS.fromS {D : Nat} {S : Nat → Prop} {A B : World} {v : Value} {c : List Nd} (h : HoldsS D S A v c) (hs : ∀ b, S b → b < A.heap.size → B.heap[b]? = A.heap[b]?) (hsz : A.heap.size ≤ B.heap.size) : HoldsS D S B v c := fun m hm hl => by
  obtain ⟨t, h1, h2, h3, h4⟩ := h m hm hl
  exact ⟨t, h1, (h2.fromS (S := fun b => S b ∧ b < A.heap.size) (fun b hb => hs b hb.1 hb.2) (h3.and h2.blk)).mono hsz, h3, h4⟩

set_option maxHeartbeats 400000 in
theorem v_any (N : Int) (w : World) : Calls Tryz.prog 52 #[.int .i64 N] w fun e W' => e = .returned (varV N).val ∧ Below w.heap.size w W' := by
  go_enter Tryz.func52, Tryz.ntmps52
  go_wp2
  exact bodyPost_ret (v := (varV N).val) (by simp [results, Tryz.results52, go_sem, varV, TV.val]) rfl ⟨rfl, (Below.refl _ _).alloc (Nat.le_refl _) _⟩

theorem find_take {c : List (Int × List Nd)} {N : Int} {j : Nat} {p : Int × List Nd} (hj : c[j]? = some p) (h : ∀ i q, c[i]? = some q → i < j → q.1 ≠ N) (hp : p.1 = N) : lookC c N = p.2 := by
  unfold lookC
  have : c.find? (fun p => p.1 == N) = some p := by
    rw [List.find?_eq_some_iff_getElem]
    obtain ⟨hlt, rfl⟩ := List.getElem?_eq_some_iff.1 hj
    refine ⟨by simp [hp], j, hlt, rfl, fun i hi => ?_⟩
    have := h i _ (List.getElem?_eq_getElem (by omega)) hi
    simpa using this
  rw [this]
theorem find_nil {c : List (Int × List Nd)} {N : Int} (h : ∀ q ∈ c, q.1 ≠ N) : lookC c N = [varNd N] := by
  unfold lookC
  rw [List.find?_eq_none.2 (fun q hq => by simpa using h q hq)]
theorem cb_at {n : Nat} {bs : List (Int × Tm n)} {j : Nat} {p : Int × Tm n} (h : bs[j]? = some p) : (cb bs)[j]? = some (p.1, code p.2) := by
  unfold cb; rw [List.getElem?_map, h]; rfl
theorem cb_at' {n : Nat} {bs : List (Int × Tm n)} {j : Nat} {q : Int × List Nd} (h : (cb bs)[j]? = some q) : ∃ p, bs[j]? = some p ∧ q = (p.1, code p.2) := by
  unfold cb at h; rw [List.getElem?_map] at h
  obtain ⟨p, hp, rfl⟩ := Option.map_eq_some_iff.1 h
  exact ⟨p, hp, rfl⟩

/-- What Find answers. -/
def FindSays {n : Nat} (bs : List (Int × Tm n)) (N : Int) (ns : Nat) (w : World) (e : Ending) (W' : World) : Prop :=
  ∃ (x : TV) (f : Bool), e = .returned (.tuple #[x.val, .bool f]) ∧ Below w.heap.size w W' ∧ HoldsS (n + 1) (· < ns) W' x.val (lookC (cb bs) N) ∧ (f = true ↔ ∃ p ∈ bs, p.1 = N)

set_option maxRecDepth 100000 in
set_option maxHeartbeats 1000000 in
theorem rfind_any {n : Nat} (bs : List (Int × Tm n)) (a : Option Addr) (len cap : Nat) (N : Int) (ns : Nat) (w : World) (hl : IsL ns w a len bs) (hns : ns ≤ w.heap.size) :
    Calls Tryz.prog 98 #[.slice a len cap, .int .i64 N] w fun e W' => FindSays bs N ns w e W' := by
  have h1 := hl.1
  have h2 := hl.2.1
  have hl1 : len ≤ bs.length := by omega
  have hl2 : bs.length ≤ len := by omega
  clear h1
  have HL := hide hl
  clear hl
  have hB1 := (Below.refl _ w).alloc (Nat.le_refl _) (.cells #[.int .i64 0, .int .i64 0, .string ⟨#[]⟩, .slice none 0 0] 24)
  have hnew := World.alloc_heap_new w (.cells #[.int .i64 0, .int .i64 0, .string ⟨#[]⟩, .slice none 0 0] 24)
  go_enter Tryz.func98, Tryz.ntmps98
  go_wp2_with fail
  obtain ⟨W1, hW1⟩ : ∃ W1, w.alloc (.cells #[.int .i64 0, .int .i64 0, .string ⟨#[]⟩, .slice none 0 0] 24) = W1 := ⟨_, rfl⟩
  have hsz : (w.alloc (.cells #[.int .i64 0, .int .i64 0, .string ⟨#[]⟩, .slice none 0 0] 24)).heap.size = w.heap.size + 1 := by simp
  rw [hW1] at hB1 hnew hsz ⊢
  clear hW1
  obtain ⟨⟨z0, z1, z2, z3⟩, y0, y1, y2, y3⟩ := zbox_kept hnew
  have HSZ := hide hsz
  clear hsz hnew
  go_loop [6] (fun i => ∃ j : Nat, j ≤ len ∧ i = .int .i64 j ∧ ∀ i q, bs[i]? = some q → i < j → q.1 ≠ N) (fun i => len - (intOf i).toNat)
  case atStart => exact ⟨0, Nat.zero_le _, rfl, fun i q _ h => by omega⟩
  case round =>
    obtain ⟨j, hj, rfl, hs⟩ := hrel
    have HS := hide hs
    clear hs
    by_cases hlt : j < len
    · have hl' : IsL W1.heap.size W1 a len bs := ((unhide HL).below (hB1.mono hns)).mono (Nat.le_trans hns hB1.size)
      obtain ⟨V, u, b, off, hu, rfl, hbk, hT, c0, c1, c2, c3, c4⟩ := bind_at hl' (Below.refl _ _) hlt
      have hTs : IsT ns W1 u := by
        obtain ⟨_, _, h3⟩ := (unhide HL).below (hB1.mono hns)
        have hne : bs ≠ [] := by rintro rfl; simp at hu
        obtain ⟨_, _, _, _, hk⟩ := h3.resolve_left hne
        exact (hk j _ hu).2.2
      have HT := hide hTs
      have HU := hide hu
      clear hT hu hl' hTs
      have hj1 : (j : Int) < len := by omega
      by_cases hV : V = N
      · have hV' : (V == N) = true := by simp [hV]
        have HV := hide hV
        clear hV
        have hfin : HoldsS (n + 1) (· < ns) (set4 W1 w.heap.size 0 u.tv) u.tv.val (lookC (cb bs) N) := by
          rw [find_take (cb_at (unhide HU)) (fun i q hq hi => by obtain ⟨p, hp, rfl⟩ := cb_at' hq; exact (unhide HS) i p hp hi) (unhide HV)]
          have hT1 : IsT ns (set4 W1 w.heap.size 0 u.tv) u := (unhide HT).fromS (fun b hb => set4_other W1 w.heap.size 0 u.tv (by omega)) (unhide HT).blk
          exact (holdsS_of (hT1.mono (by rw [set4_size]; have := unhide HSZ; omega)) hT1.blk).mono (by omega) (fun _ h => h)
        have hbf : Below w.heap.size w (set4 W1 w.heap.size 0 u.tv) := set4_below hB1 (Nat.le_refl _) 0 u.tv
        have HF := hide hfin
        have HBF := hide hbf
        clear hfin hbf
        go_wp2_with fail
        exact bodyPost_ret (v := .tuple #[u.tv.val, .bool true]) (by simp [results, Tryz.results98, go_sem, TV.val, z0, z1, z2, z3]) rfl ⟨u.tv, true, rfl, unhide HBF, unhide HF, fun _ => ⟨_, List.mem_of_getElem? (unhide HU), unhide HV⟩, fun _ => rfl⟩
      · have hV' : (V == N) = false := by simp [hV]
        have HV := hide hV
        clear hV
        go_wp2_with fail
        go_round
        case rel => exact ⟨j + 1, by omega, by go_num, fun i q hq hi => by
          by_cases e : i = j
          · subst e; rw [unhide HU] at hq; cases hq; exact unhide HV
          · exact (unhide HS) i q hq (by omega)⟩
        case measure => simp [intOf]; omega
    · have hv := v_any N W1
      simp only [TV.val, varV] at hv
      go_wp2_with fail
      refine hv.mono ?_
      clear hv
      rintro e W2 ⟨rfl, hb2⟩
      have hbz : ∀ b, b < W1.heap.size → W2.heap[b]? = W1.heap[b]? := hb2.block
      have zz : W2.cell? ⟨w.heap.size, 0, none⟩ = some (.int .i64 0) ∧ W2.cell? ⟨w.heap.size, 1, none⟩ = some (.int .i64 0) ∧ W2.cell? ⟨w.heap.size, 2, none⟩ = some (.string ⟨#[]⟩) ∧ W2.cell? ⟨w.heap.size, 3, none⟩ = some (.slice none 0 0) := by
        have hlt : w.heap.size < W1.heap.size := by have := unhide HSZ; omega
        exact ⟨(hb2.cell (p := ⟨w.heap.size, 0, none⟩) hlt).trans z0, (hb2.cell (p := ⟨w.heap.size, 1, none⟩) hlt).trans z1, (hb2.cell (p := ⟨w.heap.size, 2, none⟩) hlt).trans z2, (hb2.cell (p := ⟨w.heap.size, 3, none⟩) hlt).trans z3⟩
      have yy : W2.frozen? ⟨w.heap.size, 0, none⟩ = false ∧ W2.frozen? ⟨w.heap.size, 1, none⟩ = false ∧ W2.frozen? ⟨w.heap.size, 2, none⟩ = false ∧ W2.frozen? ⟨w.heap.size, 3, none⟩ = false := by
        have hlt : w.heap.size < W1.heap.size := by have := unhide HSZ; omega
        exact ⟨(hb2.frozen (p := ⟨w.heap.size, 0, none⟩) hlt).trans y0, (hb2.frozen (p := ⟨w.heap.size, 1, none⟩) hlt).trans y1, (hb2.frozen (p := ⟨w.heap.size, 2, none⟩) hlt).trans y2, (hb2.frozen (p := ⟨w.heap.size, 3, none⟩) hlt).trans y3⟩
      clear z0 z1 z2 z3 y0 y1 y2 y3 hbz
      obtain ⟨z0, z1, z2, z3⟩ := zz
      obtain ⟨y0, y1, y2, y3⟩ := yy
      have hnone : ∀ p ∈ bs, p.1 ≠ N := fun p hp => by
        obtain ⟨i, hi⟩ := List.mem_iff_getElem?.1 hp
        exact (unhide HS) i p hi (by have := (List.getElem?_eq_some_iff.1 hi).1; omega)
      have hfin : HoldsS (n + 1) (· < ns) (set4 W2 w.heap.size 0 (varV N)) (varV N).val (lookC (cb bs) N) := by
        rw [find_nil (fun q hq => by obtain ⟨i, hi⟩ := List.mem_iff_getElem?.1 hq; obtain ⟨p, hp, rfl⟩ := cb_at' hi; exact hnone p (List.mem_of_getElem? hp)), ← varV_nd]
        intro m hm hl
        obtain ⟨m', rfl⟩ : ∃ m', m = m' + 1 := ⟨m - 1, by omega⟩
        refine ⟨((varV N, []) : TV × List (Tm m')), rfl, ⟨rfl, ⟨by simp [Tm.tv, varV], by simp [Tm.tv, varV], hl⟩, by simp [Tm.tv, varV, ByteArray.size], .inl rfl⟩, ⟨.inl rfl, fun u hu => by cases hu⟩, ?_⟩
        rw [code_succ]; rfl
      have hbf : Below w.heap.size w (set4 W2 w.heap.size 0 (varV N)) := set4_below (hB1.trans (hb2.mono hB1.size)) (Nat.le_refl _) 0 _
      have HF := hide hfin
      have HBF := hide hbf
      have HN := hide hnone
      clear hfin hbf hnone hb2
      go_wp2_with fail
      exact bodyPost_ret (v := .tuple #[(varV N).val, .bool false]) (by simp [results, Tryz.results98, go_sem, TV.val, varV, z0, z1, z2, z3]) rfl ⟨varV N, false, rfl, unhide HBF, unhide HF, (fun h => by cases h), fun ⟨p, hp, e⟩ => ((unhide HN) p hp e).elim⟩
end Go.Proofs.YtojefplapklbmaaGreatDoor

/- The contract of hornref.Apply. -/
namespace Go.Proofs.YtojefplapklbmaaGreatDoor
open Go.RowKit Go.Shelf

def TV.row (x : TV) : List Value := [.int .i64 x.k, .int .i64 x.N, .string x.s, .slice x.a x.len x.cap]
theorem row_at : ∀ (l : List TV) (j : Nat) (x : TV), l[j]? = some x → (l.flatMap TV.row)[j * 4]? = some (.int .i64 x.k) ∧ (l.flatMap TV.row)[j * 4 + 1]? = some (.int .i64 x.N) ∧ (l.flatMap TV.row)[j * 4 + 2]? = some (.string x.s) ∧ (l.flatMap TV.row)[j * 4 + 3]? = some (.slice x.a x.len x.cap)
  | [], j, x, h => by simp at h
  | y :: l, 0, x, h => by simp at h; subst h; simp [TV.row]
  | y :: l, j + 1, x, h => by
    have ih := row_at l j x (by simpa using h)
    have hs : ∀ q, ((y :: l).flatMap TV.row)[q + 4]? = (l.flatMap TV.row)[q]? := fun q => by
      rw [List.flatMap_cons, List.getElem?_append_right (by simp [TV.row])]
      simp [TV.row]
    refine ⟨?_, ?_, ?_, ?_⟩
    · rw [show (j + 1) * 4 = j * 4 + 4 by omega, hs]; exact ih.1
    · rw [show (j + 1) * 4 + 1 = j * 4 + 1 + 4 by omega, hs]; exact ih.2.1
    · rw [show (j + 1) * 4 + 2 = j * 4 + 2 + 4 by omega, hs]; exact ih.2.2.1
    · rw [show (j + 1) * 4 + 3 = j * 4 + 3 + 4 by omega, hs]; exact ih.2.2.2
theorem row_len (l : List TV) : (l.flatMap TV.row).length = l.length * 4 := by
  induction l with
  | nil => rfl
  | cons x l ih => rw [List.flatMap_cons, List.length_append, ih]; simp [TV.row]; omega

/-- A row of terms that a call owns: the value, and each term's cells. -/
theorem owns_cells {W : World} {base : Nat} {v : Value} {l : List TV} (h : W.ownsRow base 24 4 v l.length (l.flatMap TV.row)) :
    (v = .slice none 0 0 ∧ l = []) ∨ ∃ g cap, v = .slice (some ⟨g, 0, none⟩) l.length cap ∧ base ≤ g ∧ g < W.heap.size ∧ ∀ j x, l[j]? = some x → cellsAt W g (j * 4) x := by
  obtain ⟨_, h2⟩ := h
  rcases h2 with ⟨hv, hn⟩ | ⟨g, cap, cur, hv, hg, hb, hnc, _, hcs, htk⟩
  · exact .inl ⟨hv, List.length_eq_zero_iff.1 hn⟩
  · refine .inr ⟨g, cap, hv, hg, (Array.getElem?_eq_some_iff.1 hb).1, fun j x hx => ?_⟩
    have hj := (List.getElem?_eq_some_iff.1 hx).1
    have hc : ∀ q u, (l.flatMap TV.row)[q]? = some u → W.cell? ⟨g, q, none⟩ = some u := fun q u hq => by
      rw [← htk, List.getElem?_take] at hq
      split at hq
      · simp [World.cell?, hb]
        simpa using hq
      · cases hq
    obtain ⟨r0, r1, r2, r3⟩ := row_at l j x hx
    exact ⟨hc _ _ r0, hc _ _ r1, hc _ _ r2, hc _ _ r3⟩
theorem owns_below {W W' : World} {base : Nat} {e : TypeId} {sz : Nat} {v : Value} {n : Nat} {xs : List Value} (h : W.ownsRow base e sz v n xs) (hb : ∀ g, v.ownBlock = some g → W'.heap[g]? = W.heap[g]?) : W'.ownsRow base e sz v n xs := by
  obtain ⟨h1, h2⟩ := h
  refine ⟨h1, ?_⟩
  rcases h2 with h2 | ⟨g, cap, cur, hv, hg, hbk, r⟩
  · exact .inl h2
  · subst hv
    exact .inr ⟨g, cap, cur, rfl, hg, (hb g rfl).trans hbk, r⟩
theorem owns_lt {W : World} {base : Nat} {e : TypeId} {sz : Nat} {v : Value} {n : Nat} {xs : List Value} (h : W.ownsRow base e sz v n xs) {g : Nat} (hg : v.ownBlock = some g) : base ≤ g ∧ g < W.heap.size := by
  obtain ⟨h1, h2⟩ := h
  rcases h2 with ⟨hv, _⟩ | ⟨g', cap, cur, hv, hg', hbk, r⟩
  · subst hv; simp [Value.ownBlock] at hg
  · subst hv
    simp [Value.ownBlock] at hg
    subst hg
    exact ⟨hg', (Array.getElem?_eq_some_iff.1 hbk).1⟩

/-- Terms that were made one by one, and whose cells a call keeps in a row of its own: 'v' the row, 'c' their codes. -/
structure Made (D : Nat) (S : Nat → Prop) (base : Nat) (W : World) (v : Value) (l : List TV) (c : List Nd) : Prop where
  owns : W.ownsRow base 24 4 v l.length (l.flatMap TV.row)
  kids : ∀ M, D ≤ M → M ≤ 2199023255552 → ∃ ks : List (Tm M), ks.map Tm.tv = l ∧ (∀ u ∈ ks, IsT W.heap.size W u ∧ BlkT (fun b => v.ownBlock ≠ some b ∧ S b) u) ∧ ks.flatMap code = c
theorem Made.zero (D : Nat) (S : Nat → Prop) (base : Nat) (W : World) : Made D S base W (.slice none 0 0) [] [] :=
  ⟨⟨rfl, .inl ⟨rfl, rfl⟩⟩, fun _ _ _ => ⟨[], rfl, (fun u hu => by cases hu), rfl⟩⟩
/-- One more, behind an append. -/
theorem Made.next {D base : Nat} {S : Nat → Prop} {W W5 w' : World} {v v' : Value} {l : List TV} {c c' : List Nd} {x : TV} (h : Made D S base W v l c) (hb : Below W.heap.size W W5) (hx : HoldsS D (fun b => S b ∧ v.ownBlock ≠ some b) W5 x.val c')
    (hown : w'.ownsRow base 24 4 v' (l.length + 1) (l.flatMap TV.row ++ x.row)) (hg : (W5.alloc (.cells #[.int .i64 x.k, .int .i64 x.N, .string x.s, .slice x.a x.len x.cap] 24)).grownBy w' v.ownBlock)
    (hbk : v'.ownBlock = v.ownBlock ∨ v'.ownBlock = some (W5.heap.size + 1)) : Made D S base w' v' (l ++ [x]) (c ++ c') := by
  refine ⟨by simpa [List.flatMap_append] using hown, fun M hM hlim => ?_⟩
  obtain ⟨ks, k1, k2, k3⟩ := h.kids M hM hlim
  obtain ⟨u, hu, hT, hS, hc⟩ := hx M hM hlim
  have hux : u.tv = x := by
    simp only [TV.val, Value.agg.injEq] at hu
    simp at hu
    obtain ⟨e1, e2, e3, e4, e5, e6⟩ := hu
    cases hy : u.tv; cases x; simp_all
  have hsz : W5.heap.size + 1 ≤ w'.heap.size := by have := hg.size; simpa using this
  have hsame : ∀ b, b < W5.heap.size → v.ownBlock ≠ some b → w'.heap[b]? = W5.heap[b]? := fun b hb1 hne =>
    (hg.block b (by simp; omega) (fun e => hne e.symm)).trans (Below.heap_alloc _ _ _ hb1)
  have key : ∀ z : Tm M, IsT W5.heap.size W5 z → BlkT (fun b => v.ownBlock ≠ some b ∧ S b) z → IsT w'.heap.size w' z ∧ BlkT (fun b => v'.ownBlock ≠ some b ∧ S b) z := fun z hz hzS => by
    have hz2 := hzS.and hz.blk
    refine ⟨(hz.fromS (fun b hb' => hsame b hb'.2 hb'.1.1) hz2).mono (by omega), hz2.mono fun b hb' => ⟨?_, hb'.1.2⟩⟩
    rcases hbk with e | e
    · rw [e]; exact hb'.1.1
    · rw [e]; intro e'; simp at e'; have := hb'.2; omega
  refine ⟨ks ++ [u], by simp [k1, hux], fun z hz => ?_, by simp [k3, hc]⟩
  rcases List.mem_append.1 hz with hz | hz
  · obtain ⟨z1, z2⟩ := k2 z hz
    exact key z ((z1.below hb).mono hb.size) z2
  · simp at hz
    subst hz
    exact key z hT (hS.mono fun b h => ⟨h.2, h.1⟩)
end Go.Proofs.YtojefplapklbmaaGreatDoor

