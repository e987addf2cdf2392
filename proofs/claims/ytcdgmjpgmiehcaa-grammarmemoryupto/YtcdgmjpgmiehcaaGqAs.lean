import Derived.Test.YtcdgmjpgmiehcaaGmL
import Derived.Test.YtcdgmjpgmiehcaaGmCs
/- base.Body once more: what it answers lies in blocks of terms. -/
namespace Go.Proofs.Ytcdgmjpgmiehcaa
open Go.RowKit Go.Shelf

theorem stands_holdsG {n b o : Nat} {L : List Nat} {sz : Nat} {W' : World} {c : List Nd} {lo : Nat} (h : StandsB n b o L sz W' c) (hL : ∀ k ∈ L, lo ≤ k) (hsz : lo ≤ sz) : ∃ y : TV, cellsAt W' b o y ∧ HoldsG anyP (n + 1) lo W' y.val c := by
  obtain ⟨t', h1, h2, h3, _, h5, h6⟩ := h
  refine ⟨t'.tv, h1, ?_⟩
  rw [← h5]
  exact holdsG_of h2 (blk_of h2 fun k hk => ⟨trivial, by
    rcases h6 k hk with h | h
    · exact hL k h
    · exact Nat.le_trans hsz h, h3.kind k hk⟩) h3
set_option maxRecDepth 100000 in
set_option maxHeartbeats 2000000 in
theorem body_okG {n : Nat} (t : Tm n) (W : World) {c : List Nd} (hT : IsT W.heap.size W t) (hok : okT t = true) (hc : bodyC t = some c) (hn40 : n ≤ 549755813888 := by omega) :
    Calls Try.prog 57 #[t.tv.val] W fun e W' => ∃ x : TV, e = .returned (.tuple #[x.val, .int .i64 0]) ∧ HoldsG anyP (n + (n + 1) + 1) W.heap.size W' x.val c ∧ Below W.heap.size W W' := by
  have HA : Hid (∀ V, Below W.heap.size W V → Calls Try.prog 58 #[t.tv.val, .slice none 0 0] V fun e W' => ∃ x : TV, e = .returned (.tuple #[x.val, .int .i64 0]) ∧ Below V.heap.size V W' ∧ HoldsT (n + (n + 1)) V.heap.size W' x.val (code t)) := fun V hV => apply_nil t V ((hT.below hV).mono hV.size) hok
  have hH := Head.new W t.tv
  have ha := HA.out _ hH.below
  have HB : Hid (∀ {m : Nat} (o : Tm m), Wl o → code o = code t → bodyC o = bodyC t ∧ okT o = true) := fun o ho hc => ⟨body_copy hT.wl hok ho hc, by rw [okT_m, hc, ← okT_m]; exact hok⟩
  rw [hc] at HB
  clear hT hok HA hc
  simp only [TV.val] at ha ⊢
  go_enter Try.func57, Try.ntmps57
  go_wp2_with fail
  refine ha.mono ?_
  clear ha
  rintro e W1 ⟨x, rfl, hb1, hx⟩
  rw [show ((W.alloc (.cells #[.int .i64 t.tv.k, .int .i64 t.tv.N, .string t.tv.s, .slice t.tv.a t.tv.len t.tv.cap] 24)).alloc (.cells #[.int .i64 0, .int .i64 0, .string ⟨#[]⟩, .slice none 0 0] 24)).heap.size = W.heap.size + 2 by simp] at hx
  replace hH := hH.next hb1
  have hlt := hH.lt
  obtain ⟨o, ho, hoT', hoN, hoc⟩ := hx _ (Nat.le_refl _)
  have hoT := hoT' (by omega)
  clear hoT'
  obtain rfl := tv_inj ho
  obtain ⟨hbo, hok⟩ := HB.out o hoT.wl hoc
  clear hx ho HB hoc hb1
  have hb2 : Below W1.heap.size W1 (W1.alloc (.cells #[.int .i64 o.tv.k, .int .i64 o.tv.N, .string o.tv.s, .slice o.tv.a o.tv.len o.tv.cap] 24)) := (Below.refl _ W1).alloc (Nat.le_refl _) _
  have hbx := BoxT.new W1 o.tv
  have hL : ∀ k ∈ blks o, W.heap.size + 2 ≤ k ∧ k < W1.heap.size := fun k hk => ⟨(hoN.wh.blks_in k hk).1, (hoN.wh.blks_in k hk).2.1⟩
  have hmb := makeBody_any _ o W1.heap.size 0 (W1.alloc (.cells #[.int .i64 o.tv.k, .int .i64 o.tv.N, .string o.tv.s, .slice o.tv.a o.tv.len o.tv.cap] 24)) hok ⟨hbx.c0, hbx.c1, hbx.c2, hbx.c3⟩ ⟨_, _, hbx, by simp⟩ ((hoT.below hb2).mono hb2.size) ((hoN.below hb2).wh.rows hoT.wl) hoN.ap (fun hm => by have := (hL _ hm).2; omega)
  rw [hbo] at hmb
  replace hH := hH.next hb2
  have HH := hide hH
  have HL := hide hL
  have HS : Hid (W1.heap.size + 1 = (W1.alloc (.cells #[.int .i64 o.tv.k, .int .i64 o.tv.N, .string o.tv.s, .slice o.tv.a o.tv.len o.tv.cap] 24)).heap.size) := by show _ = _; simp
  have HLT := hide hlt
  clear hH hL hoT hoN hok hbo hb2 hbx hlt
  go_wp2_with fail
  refine hmb.mono ?_
  clear hmb
  rintro e W3 ⟨rfl, hm3⟩
  obtain ⟨ht3, hs3⟩ := hm3
  have hs := ht3.gr.size
  have hBW : Below W.heap.size W W3 := (unhide HH).below.trans (ht3.gr.below (n₀ := W.heap.size) (fun k hk => by
    rcases hk with rfl | hk
    · have := unhide HLT; omega
    · have := (unhide HL k hk).1; omega) (by have := (unhide HH).below.size; omega))
  have hz3 := (ht3.gr.block (W.heap.size + 1) (unhide HH).lt (by
    rintro (h | h)
    · have := unhide HLT; omega
    · have := (unhide HL _ h).1; omega)).trans (unhide HH).bz
  obtain ⟨⟨z0, z1, z2, z3⟩, y0, y1, y2, y3⟩ := zbox_kept hz3
  obtain ⟨y, hy, hyS⟩ := stands_holdsG (lo := W.heap.size + 2) (hs3 c rfl) (fun k hk => (unhide HL k hk).1) (by have := HS.out; have := unhide HLT; omega)
  obtain ⟨c0, c1, c2, c3⟩ := hy
  have HF : Hid (HoldsG anyP (n + (n + 1) + 1) W.heap.size (set4 W3 (W.heap.size + 1) 0 y) y.val c ∧ Below W.heap.size W (set4 W3 (W.heap.size + 1) 0 y)) := hide ⟨(HoldsG.move hyS (fun k _ hk => set4_other W3 (W.heap.size + 1) 0 y (by have := hk.1; omega)) (by rw [set4_size]; exact Nat.le_refl _)).mono (Nat.le_refl _) (by omega) (fun _ h => h), set4_below hBW (by omega) 0 _⟩
  clear hBW hz3 HH HL ht3 hs3 HS hyS hs HLT
  simp only [Option.isSome_some]
  go_wp2_with fail
  exact bodyPost_ret (v := .tuple #[y.val, .int .i64 0]) (by simp [results, Try.results57, go_sem, TV.val, z0, z1, z2, z3]) rfl ⟨y, rfl, unhide HF⟩
end Go.Proofs.Ytcdgmjpgmiehcaa

/- Where a list ends, and what it is when something else stands there: mathematics of memory. -/
namespace Go.Proofs.Ytcdgmjpgmiehcaa
open Go.RowKit Go.Shelf

/-- Where a list ends. -/
def endA : {n : Nat} → Tm n → Nat → Nat → Nat × Nat
  | 0, t, _, _ => Empty.elim t
  | _ + 1, t, b, o => if isB t.tv [46] 2 = true then (match t.kids, t.tv.a with | [_, v], some ⟨b', o', _⟩ => endA v b' (o' + 4) | _, _ => (b, o)) else (b, o)
theorem endA_no {n : Nat} {x : TV} {kids : List (Tm n)} (h : isB x [46] 2 = false) (b o : Nat) : endA (n := n + 1) ((x, kids) : TV × List (Tm n)) b o = (b, o) := by
  show (if isB x [46] 2 = true then _ else _) = _
  rw [h]; rfl
theorem endA_yes {n : Nat} {x : TV} {u v : Tm n} (h : isB x [46] 2 = true) {B off : Nat} (ha : x.a = some ⟨B, off, none⟩) (b o : Nat) : endA (n := n + 1) ((x, [u, v]) : TV × List (Tm n)) b o = endA v B (off + 4) := by
  show (if isB x [46] 2 = true then (match [u, v], x.a with | [_, v], some ⟨b', o', _⟩ => endA v b' (o' + 4) | _, _ => (b, o)) else (b, o)) = _
  rw [if_pos h, ha]
theorem endA_in {W : World} {m : Nat} : ∀ {n : Nat} (t : Tm n), IsT m W t → ∀ b o, endA t b o = (b, o) ∨ (endA t b o).1 ∈ blks t := by
  intro n
  induction n with
  | zero => intro t; exact Empty.elim t
  | succ n ih =>
    intro t hT b o
    obtain ⟨x, kids⟩ := t
    cases hx : isB x [46] 2 with
    | false => exact .inl (endA_no hx b o)
    | true =>
      have hl : x.len = 2 := by have := isB_len hx; omega
      obtain ⟨u, v, rfl⟩ := two_kids hT.wl hl
      rcases hT.2.2.2 with h4 | ⟨B, off, ha, _, hk⟩
      · cases h4
      · rw [endA_yes hx ha]
        have hB : B ∈ blks (n := n + 1) ((x, [u, v]) : TV × List (Tm n)) := row_blks (by simp) ha
        rcases ih v (hk 1 v rfl).2 B (off + 4) with h | h
        · rw [h]; exact .inr hB
        · exact .inr (kid_blks (by simp) h)
/-- Something stands at the end of a list. -/
theorem end_put {lo D : Nat} {W W3 : World} {y : TV} {cr : List Nd} (hsz : W.heap.size ≤ W3.heap.size) (hy : HoldsG anyP D lo W3 y.val cr) : ∀ {n : Nat} (t : Tm n) (b o : Nat), cellsAt W b o t.tv → Spot W b o → IsT W.heap.size W t → Rows W t → (blks t).Nodup → b ∉ blks t → okT t = true → (∀ k ∈ blks t, lo ≤ k) →
    (∀ k, k = b ∨ k ∈ blks t → k ≠ (endA t b o).1 → W3.heap[k]? = W.heap[k]?) →
    (∀ arr T, W.heap[(endA t b o).1]? = some (.cells arr T (0, 0)) → ∃ arr', W3.heap[(endA t b o).1]? = some (.cells arr' T (0, 0)) ∧ arr'.size = arr.size ∧ ∀ q, (q < (endA t b o).2 ∨ (endA t b o).2 + 3 < q) → arr'[q]? = arr[q]?) →
    cellsAt W3 (endA t b o).1 (endA t b o).2 y → ∃ z : TV, cellsAt W3 b o z ∧ HoldsG anyP (n + D) lo W3 z.val (endC t cr) := by
  intro n
  induction n with
  | zero => intro t; exact Empty.elim t
  | succ n ih =>
    intro t b o hc hsp hT hR hap hnb ok hlo hkp hat hcy
    obtain ⟨x, kids⟩ := t
    rw [endC_succ]
    cases hx : isB x [46] 2 with
    | false =>
      rw [endA_no hx] at hcy
      refine ⟨y, hcy, ?_⟩
      rw [if_neg (by simp)]
      exact hy.mono (by omega) (Nat.le_refl _) (fun _ h => h)
    | true =>
      have hl : x.len = 2 := by have := isB_len hx; omega
      obtain ⟨u, v, rfl⟩ := two_kids hT.wl hl
      obtain ⟨B, hP, eb⟩ := pair_of (x := x) hc hsp hT hR hap hnb
      obtain ⟨p1, p2, p3, p4, p5, p6, p7, p8⟩ := hP.parts
      have hin := endA_in v hP.tv B 4
      rw [endA_yes hx hP.xa] at hkp hat hcy
      simp only [Nat.zero_add] at hkp hat hcy
      rw [eb] at hkp hlo
      have hke : (endA v B 4).1 = B ∨ (endA v B 4).1 ∈ blks v := by
        rcases hin with h | h
        · rw [h]; exact .inl rfl
        · exact .inr h
      have hkk := (ok_kids ok).2
      have hx4 : x.k = 4 ∧ x.N = 0 := by
        rcases wm_cases (ok_kids ok).1 with ⟨h, _⟩ | ⟨_, h⟩ | ⟨h, h', _⟩
        · exact absurd h (isB_kind hx)
        · omega
        · exact ⟨h, h'⟩
      obtain ⟨z, hz1, hz2⟩ := ih v B 4 hP.cv hP.spots.2 hP.tv hP.rv p2 p4 (hkk v (by simp)) (fun k hk => hlo k (by simp [hk])) (fun k hk hne => hkp k (by
        rcases hk with rfl | hk
        · exact .inr (by simp)
        · exact .inr (by simp [hk])) hne) hat hcy
      have hbk : W3.heap[b]? = W.heap[b]? := hkp b (.inl rfl) (fun e => by
        rcases hke with h | h
        · exact p6 (e.trans h)
        · exact p8 (e ▸ h))
      have huk : ∀ k ∈ blks u, W3.heap[k]? = W.heap[k]? := fun k hk => hkp k (.inr (by simp [hk])) (fun e => by
        rcases hke with h | h
        · exact p3 (h ▸ e ▸ hk)
        · exact p5 k hk (e ▸ h))
      obtain ⟨arr, hB, hBs⟩ := hP.blk
      have hcu : cellsAt W3 B 0 u.tv ∧ ∃ arr, W3.heap[B]? = some (.cells arr 24 (0, 0)) ∧ arr.size = 8 := by
        by_cases e : (endA v B 4).1 = B
        · have e2 : endA v B 4 = (B, 4) := by
            rcases hin with h | h
            · exact h
            · exact absurd (e ▸ h) p4
          rw [e2] at hat
          obtain ⟨arr', k1, k2, k3⟩ := hat arr _ hB
          have hq : ∀ q, q < 4 → W3.cell? ⟨B, q, none⟩ = W.cell? ⟨B, q, none⟩ := fun q hq => by simp only [World.cell?, hB, k1, k3 q (.inl hq)]
          obtain ⟨c0, c1, c2, c3⟩ := hP.cu
          exact ⟨⟨(hq _ (by omega)).trans c0, (hq _ (by omega)).trans c1, (hq _ (by omega)).trans c2, (hq _ (by omega)).trans c3⟩, arr', k1, by omega⟩
        · have hBk := hkp B (.inr (by simp)) (fun h => e h.symm)
          exact ⟨hP.cu.kept hBk, arr, hBk.trans hB, hBs⟩
      have hut : IsT W3.heap.size W3 u := hP.tu.keptL hsz huk
      have hug : HoldsG anyP (n + D) lo W3 u.tv.val (code u) := HoldsG.mono (holdsG_of hut (blk_of hut fun k hk => (⟨trivial, hlo k (by simp [hk]), by
        obtain ⟨arr, ha⟩ := hP.ru.kind k hk
        exact ⟨arr, (huk k hk).trans ha⟩⟩ : anyP k ∧ KT lo W3 k)) (hP.ru.kept huk)) (by omega) (Nat.le_refl _) (fun _ h => h)
      refine ⟨x, hc.kept hbk, ?_⟩
      have hcomp := comp_G (P := anyP) (D := n + D) (lo := lo) (g := B) (cap := x.cap) (W := W3) (s := x.s) (xs := [u.tv, z]) (cs := [code u, endC v cr]) hP.xs (by simp) rfl ⟨hlo B (by simp), hcu.2⟩ trivial (by rw [hP.xe, hl]; rfl) (fun j q c hq hc => by
        match j, hq, hc with
        | 0, hq, hc =>
          simp at hq hc
          subst hq hc
          exact ⟨by simpa using hcu.1, hug⟩
        | 1, hq, hc =>
          simp at hq hc
          subst hq hc
          exact ⟨by simpa using hz1, hz2⟩
        | j + 2, hq, hc => simp at hq)
      have ex : x = compV x.s (some ⟨B, 0, none⟩) 2 x.cap := by
        obtain ⟨k, N, s, a, len, cap⟩ := x
        simp only at hx4 hl
        obtain ⟨rfl, rfl⟩ := hx4
        subst hl
        have := hP.xa
        simp only at this
        subst this
        rfl
      have en : x.nd = (4, 0, x.s.toList, 2) := by unfold TV.nd; rw [hx4.1, hx4.2, hl]
      rw [if_pos rfl]
      show HoldsG anyP (n + 1 + D) lo W3 x.val (x.nd :: (code u ++ endC v cr))
      rw [en, show n + 1 + D = n + D + 1 by omega]
      simp only [List.length_cons, List.length_nil, Nat.zero_add, Nat.reduceAdd, List.flatten_cons, List.flatten_nil, List.append_nil] at hcomp
      rw [← ex] at hcomp
      exact hcomp
end Go.Proofs.Ytcdgmjpgmiehcaa

/- A drawn region by what holds at every moment; the slots of a frame that a region writes. -/
namespace Go.Proofs.Ytcdgmjpgmiehcaa
open Go.RowKit Go.Shelf Go.Maps

section
variable {P : Program} {ops : Array Oper} {Q : Exit → Act → World → Prop} {md : Region.Mode}

theorem count_listed {l : List Bool} {i : Nat} (h : l[i]? = some false) : (l.set i true).count false + 1 = l.count false := by
  induction l generalizing i with
  | nil => simp at h
  | cons b l ih =>
    cases i with
    | zero => simp at h; subst h; simp
    | succ i =>
      have := ih (i := i) (by simpa using h)
      cases b <;> simp <;> omega
theorem listed_false {listed : Array Bool} {i : Nat} (h : listed.getD i true = false) : listed.toList[i]? = some false := by
  rw [Array.getElem?_toList]
  cases hk : listed[i]? with
  | none => simp [hk] at h
  | some b => simp [hk] at h; rw [h]
/-- Where nothing is ready all has come up: what an operation waits for stands ahead of it. -/
theorem all_listed (hrank : ∀ i o, ops[i]? = some o → ∀ e ∈ o.after, Region.binds md e = true → e.on < i) {listed : Array Bool} (hs : listed.size = ops.size) (hr : Region.ready md ops listed = []) : ∀ i, i < ops.size → listed.getD i false = true := by
  intro i
  induction i using Nat.strongRecOn with
  | _ i ih =>
    intro hi
    cases hb : listed[i]? with
    | none => rw [Array.getElem?_eq_none_iff] at hb; omega
    | some b =>
      cases b with
      | true => simp [hb]
      | false =>
        have hm : i ∈ Region.ready md ops listed := mem_ready.2 ⟨by simp [hb], ops[i]'hi, Array.getElem?_eq_getElem hi, fun e he hbe => by
          have hlt := hrank i _ (Array.getElem?_eq_getElem hi) e he hbe
          exact ih e.on hlt (by omega)⟩
        rw [hr] at hm
        cases hm
/-- The rule. -/
theorem wpAny_inv (I : Array Bool → Act → World → Prop) (hrank : ∀ i o, ops[i]? = some o → ∀ e ∈ o.after, Region.binds md e = true → e.on < i)
    (hstep : ∀ (listed : Array Bool) (a : Act) (w : World) (i : Nat) (o : Oper), listed.size = ops.size → I listed a w → ops[i]? = some o → listed.getD i true = false → (∀ e ∈ o.after, Region.binds md e = true → listed.getD e.on false = true) →
      ∀ K : Act → World → Prop, (∀ a w, I (listed.setIfInBounds i true) a w → K a w) → if Region.wanted o (yielded ops a.tmps) = true then Oper.wp P o a w K Q else K (a.put o.dst undef) w)
    (hend : ∀ (listed : Array Bool) (a : Act) (w : World), I listed a w → (∀ i, i < ops.size → listed.getD i false = true) → Q .normal a w) :
    ∀ (fuel : Nat) (listed : Array Bool) (a : Act) (w : World), listed.size = ops.size → listed.toList.count false ≤ fuel → I listed a w → wpAny P md ops Q fuel listed a w := by
  intro fuel
  induction fuel with
  | zero =>
    intro listed a w hs hc hI
    have hr : Region.ready md ops listed = [] := by
      cases he : Region.ready md ops listed with
      | nil => rfl
      | cons j r =>
        have hj : j ∈ Region.ready md ops listed := by rw [he]; exact List.mem_cons_self ..
        have h1 := count_listed (listed_false (mem_ready.1 hj).1)
        omega
    exact ⟨hr, hend listed a w hI (all_listed hrank hs hr)⟩
  | succ fuel ih =>
    intro listed a w hs hc hI
    refine ⟨fun hr => hend listed a w hI (all_listed hrank hs hr), fun i hi => ?_⟩
    obtain ⟨h1, o, ho, h2⟩ := mem_ready.1 hi
    refine wpOp_step ho fun K' hK => hstep listed a w i o hs hI ho h1 h2 K' fun a' w' hI' => hK a' w' (ih _ a' w' (by simpa using hs) ?_ hI')
    have h3 := count_listed (listed_false h1)
    rw [Array.toList_setIfInBounds]
    omega
/-- .. of a region as it stands. -/
theorem wp_region_inv (hm : P.follows .mixedOrders = true) (I : Array Bool → Act → World → Prop) (hrank : ∀ i o, ops[i]? = some o → ∀ e ∈ o.after, Region.binds .any e = true → e.on < i)
    (hstep : ∀ (listed : Array Bool) (a : Act) (w : World) (i : Nat) (o : Oper), listed.size = ops.size → I listed a w → ops[i]? = some o → listed.getD i true = false → (∀ e ∈ o.after, Region.binds .any e = true → listed.getD e.on false = true) →
      ∀ K : Act → World → Prop, (∀ a w, I (listed.setIfInBounds i true) a w → K a w) → if Region.wanted o (yielded ops a.tmps) = true then Oper.wp P o a w K Q else K (a.put o.dst undef) w)
    (hend : ∀ (listed : Array Bool) (a : Act) (w : World), I listed a w → (∀ i, i < ops.size → listed.getD i false = true) → Q .normal a w) {id : Nat} {a : Act} {w : World} (h0 : I (Array.replicate ops.size false) a w.drew) : (Code.region id ops true).wp P Q a w :=
  wp_region_any hm (wpAny_inv I hrank hstep hend ops.size _ a _ (by simp) (by simp) h0)
end

/-- One place of a function made anew. -/
def upd {α : Type} (f : Nat → α) (j : Nat) (v : α) : Nat → α := fun i => if i = j then v else f i
@[simp] theorem upd_at {α : Type} (f : Nat → α) (j : Nat) (v : α) : upd f j v j = v := by simp [upd]
theorem upd_off {α : Type} (f : Nat → α) {i j : Nat} (v : α) (h : i ≠ j) : upd f j v i = f i := by simp [upd, h]
def layL (sl : Nat → Bool) (f : Nat → Value) : Nat → List Value → List Value
  | _, [] => []
  | k, v :: l => (match sl k with | true => f k | false => v) :: layL sl f (k + 1) l
/-- The frame's slots with the region's own by f. -/
def lay (sl : Nat → Bool) (t : Array Value) (f : Nat → Value) : Array Value := (layL sl f 0 t.toList).toArray
section
variable (sl : Nat → Bool)
theorem layL_at (f : Nat → Value) : ∀ (l : List Value) (k i : Nat), (layL sl f k l)[i]? = l[i]?.map fun v => match sl (k + i) with | true => f (k + i) | false => v := by
  intro l
  induction l with
  | nil => intro k i; simp [layL]
  | cons v l ih =>
    intro k i
    cases i with
    | zero => simp [layL]
    | succ i =>
      have h := ih (k + 1) i
      rw [show k + 1 + i = k + (i + 1) by omega] at h
      simpa [layL] using h
theorem lay_at (t : Array Value) (f : Nat → Value) (i : Nat) : (lay sl t f)[i]? = t[i]?.map fun v => match sl i with | true => f i | false => v := by
  have h := layL_at sl f t.toList 0 i
  rw [Nat.zero_add] at h
  simpa [lay] using h
theorem lay_slot (t : Array Value) (f : Nat → Value) (i : Nat) (hs : sl i = true) (hi : i < t.size) : (lay sl t f)[i]? = some (f i) := by
  rw [lay_at, Array.getElem?_eq_getElem hi]
  simp [hs]
theorem lay_off (t : Array Value) (f : Nat → Value) (i : Nat) (hs : sl i = false) : (lay sl t f)[i]? = t[i]? := by
  rw [lay_at]
  simp [hs]
theorem lay_put (t : Array Value) (f : Nat → Value) (d : Nat) (v : Value) (hs : sl d = true) : (lay sl t f).setIfInBounds d v = lay sl t (upd f d v) := by
  apply Array.ext_getElem?
  intro i
  rw [Array.getElem?_setIfInBounds, lay_at, lay_at]
  have hsz : (lay sl t f).size = t.size := by
    have : ∀ (l : List Value) (k : Nat), (layL sl f k l).length = l.length := by
      intro l
      induction l with
      | nil => intro k; rfl
      | cons v l ih => intro k; simp [layL, ih]
    simp [lay, this]
  rw [hsz]
  by_cases e : d = i
  · subst e
    rw [if_pos rfl]
    split
    · rename_i h; rw [Array.getElem?_eq_getElem h]; simp [hs]
    · rename_i h; rw [Array.getElem?_eq_none (by omega)]; rfl
  · rw [if_neg e, upd_off _ _ (fun h => e h.symm)]
theorem lay_self (t : Array Value) : lay sl t (fun k => t.getD k undef) = t := by
  apply Array.ext_getElem?
  intro i
  rw [lay_at]
  cases h : t[i]? with
  | none => rfl
  | some v => cases sl i <;> simp [h]
end
def rankB (ops : Array Oper) : Bool := (List.range ops.size).all fun i => (ops.getD i default).after.all fun e => !Region.binds .any e || Nat.blt e.on i
theorem rank_of {ops : Array Oper} (h : rankB ops = true) : ∀ i o, ops[i]? = some o → ∀ e ∈ o.after, Region.binds .any e = true → e.on < i := fun i o ho e he hb => by
  have hi : i < ops.size := (Array.getElem?_eq_some_iff.1 ho).1
  have h1 := List.all_eq_true.1 h i (List.mem_range.2 hi)
  rw [show ops.getD i default = o by simp [ho]] at h1
  have h2 := (Array.all_eq_true_iff_forall_mem.1 h1) e he
  simpa [hb] using h2
theorem flag_set {l : Array Bool} {i : Nat} (hi : i < l.size) (k : Nat) : (l.setIfInBounds i true).getD k false = if k = i then true else l.getD k false := by
  simp only [Array.getD_eq_getD_getElem?, Array.getElem?_setIfInBounds]
  by_cases e : i = k
  · subst e; simp [hi]
  · rw [if_neg e, if_neg (fun h => e h.symm)]
theorem flag_no {l : Array Bool} {i : Nat} (h : l.getD i true = false) : i < l.size ∧ l.getD i false = false := by
  simp only [Array.getD_eq_getD_getElem?] at h ⊢
  cases hk : l[i]? with
  | none => simp [hk] at h
  | some b => simp [hk] at h; subst h; exact ⟨(Array.getElem?_eq_some_iff.1 hk).1, by simp⟩
theorem rep_no (m i : Nat) : (Array.replicate m false).getD i false = false := by
  simp only [Array.getD_eq_getD_getElem?, Array.getElem?_replicate]
  split <;> rfl
/-- Values of slots that hold wherever they have come up. -/
def Pures (pu : Nat → Bool) (ds : Nat → Nat) (F : Nat → Value) (l : Array Bool) (f : Nat → Value) : Prop := ∀ k, pu k = true → l.getD k false = true → f (ds k) = F (ds k)
theorem Pures.take {pu : Nat → Bool} {ds : Nat → Nat} {F : Nat → Value} {l : Array Bool} {f : Nat → Value} (h : Pures pu ds F l f) {i : Nat} (hi : i < l.size) : Pures pu ds F (l.setIfInBounds i true) (upd f (ds i) (F (ds i))) := fun k hp hk => by
  by_cases e : ds k = ds i
  · rw [e, upd_at]
  · rw [upd_off _ _ e]
    rw [flag_set hi] at hk
    split at hk
    · rename_i h'; exact (e (by rw [h'])).elim
    · exact h k hp hk
theorem Pures.other {pu : Nat → Bool} {ds : Nat → Nat} {F : Nat → Value} {l : Array Bool} {f : Nat → Value} (h : Pures pu ds F l f) {i s : Nat} (hi : i < l.size) (hpi : pu i = false) (hs : ∀ k, pu k = true → ds k ≠ s) (v : Value) : Pures pu ds F (l.setIfInBounds i true) (upd f s v) := fun k hp hk => by
  rw [upd_off _ _ (hs k hp)]
  rw [flag_set hi] at hk
  split at hk
  · rename_i h'; subst h'; rw [hpi] at hp; cases hp
  · exact h k hp hk
theorem Pures.same {pu : Nat → Bool} {ds : Nat → Nat} {F : Nat → Value} {l : Array Bool} {f : Nat → Value} (h : Pures pu ds F l f) {i : Nat} (hi : i < l.size) (hpi : pu i = false) : Pures pu ds F (l.setIfInBounds i true) f := fun k hp hk => by
  rw [flag_set hi] at hk
  split at hk
  · rename_i h'; subst h'; rw [hpi] at hp; cases hp
  · exact h k hp hk
theorem Pures.none (pu : Nat → Bool) (ds : Nat → Nat) (F : Nat → Value) (m : Nat) (f : Nat → Value) : Pures pu ds F (Array.replicate m false) f := fun k _ hk => by rw [rep_no] at hk; cases hk
end Go.Proofs.Ytcdgmjpgmiehcaa

