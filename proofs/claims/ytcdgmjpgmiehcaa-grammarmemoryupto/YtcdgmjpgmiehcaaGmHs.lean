import Derived.Test.YtcdgmjpgmiehcaaGmFs
import Derived.Deep.DeepAppendRoom
import Derived.Test.YtcdgmjpgmiehcaaBbB
/- What the writer's steps may change; tasks in a row; grammar's leave. -/
namespace Go.Proofs.Ytcdgmjpgmiehcaa
open Go.RowKit Go.Shelf

/-- Blocks in X may change, and rows of tasks from B on. -/
structure FrG (B : Nat) (X : Nat → Prop) (V V' : World) : Prop where
  os : V'.os = V.os
  tape : V'.tape = V.tape
  output : V'.output = V.output
  size : V.heap.size ≤ V'.heap.size
  block : ∀ k, k < V.heap.size → ¬ X k → (k < B ∨ ∀ o, V.heap[k]? = some o → ofK 64 o = false) → V'.heap[k]? = V.heap[k]?
theorem FrG.refl (B : Nat) (X : Nat → Prop) (V : World) : FrG B X V V := ⟨rfl, rfl, rfl, Nat.le_refl _, fun _ _ _ _ => rfl⟩
theorem FrG.of_grb {B : Nat} {X : Nat → Prop} {V V' : World} (h : GrB X V.heap.size V V') : FrG B X V V' := ⟨h.os, h.tape, h.output, h.size, fun k hk hx _ => h.block k hk hx⟩
theorem FrG.of_below {B : Nat} {X : Nat → Prop} {V V' : World} (h : Below V.heap.size V V') : FrG B X V V' := FrG.of_grb (GrB.of_below h)
theorem FrG.trans {B : Nat} {X : Nat → Prop} {V V' V'' : World} (h : FrG B X V V') (k : FrG B X V' V'') : FrG B X V V'' :=
  ⟨k.os.trans h.os, k.tape.trans h.tape, k.output.trans h.output, Nat.le_trans h.size k.size, fun b hb hx hc => by
    have e := h.block b hb hx hc
    refine (k.block b (Nat.lt_of_lt_of_le hb h.size) hx ?_).trans e
    rcases hc with hc | hc
    · exact .inl hc
    · exact .inr fun o ho => hc o (e.symm.trans ho)⟩
theorem FrG.wide {B : Nat} {X Y : Nat → Prop} {V V' : World} (h : FrG B X V V') (hX : ∀ k, X k → Y k) : FrG B Y V V' := ⟨h.os, h.tape, h.output, h.size, fun k hk hx => h.block k hk fun e => hx (hX k e)⟩
/-- What of a frame is not of the kind of tasks, or lies below B, stays. -/
theorem FrG.pt {B : Nat} {X : Nat → Prop} {V V' : World} (h : FrG B X V V') {q : Nat} {x : TV} {b : Bool} (hp : PtB V q x b) (hx : ¬ X q) : PtB V' q x b := hp.kept (h.block q hp.lt hx (.inr fun o ho => by
  rw [show V.heap[q]? = _ from hp] at ho
  cases ho
  simp [ofK]))
theorem FrG.wr {B : Nat} {X : Nat → Prop} {V V' : World} (h : FrG B X V V') {q : Nat} {n : Int} {l : Value} (hp : WrB V q n l) (hx : ¬ X q) : WrB V' q n l := hp.kept (h.block q hp.lt hx (.inr fun o ho => by
  rw [show V.heap[q]? = _ from hp] at ho
  cases ho
  simp [ofK]))
theorem Try.infoT7 : (Try.prog.info? 64).map (fun i => (i.zero, i.size, i.bytes)) = some (some (.agg #[.int .i64 0, .int .i64 0, .string ⟨#[]⟩, .slice none 0 0, .pointer none, .pointer none, .pointer none]), 7, 80) := by kernel_rfl
/-- A task: a body, two points, a place. -/
structure Task where
  x : TV
  pf : Nat
  pt : Nat
  pl : Addr
def Task.row (k : Task) : List Value := [.int .i64 k.x.k, .int .i64 k.x.N, .string k.x.s, .slice k.x.a k.x.len k.x.cap, .pointer (some ⟨k.pf, 0, none⟩), .pointer (some ⟨k.pt, 0, none⟩), .pointer (some k.pl)]
def Task.val (k : Task) : Value := .agg k.row.toArray
def StkK (B : Nat) (W : World) (v : Value) (S : List Task) : Prop := StkW 64 7 B W v (S.map Task.row)
theorem task_ok (k : Task) : ∀ u ∈ k.row, u.oneCell' = true := by intro u hu; simp [Task.row] at hu; rcases hu with rfl | rfl | rfl | rfl | rfl | rfl | rfl <;> rfl
theorem StkK.push {B h : Nat} {W : World} {v : Value} {S : List Task} (hs : StkK B W v S) (E : Task) (hh : W.heap.size = h) (hl : S.length + 1 ≤ 1099511627776) (hB : B ≤ W.heap.size) :
    ∃ v' X, (Builtin.append_ #[46, 46] 46 #[v, .slice (some ⟨h, 0, none⟩) 1 1]).run Try.prog (W.alloc (.cells E.row.toArray 64)) = .ok v' X ∧ StkK B X v' (S ++ [E]) ∧ (W.alloc (.cells E.row.toArray 64)).grownBy X v.ownBlock ∧ (v'.ownBlock = v.ownBlock ∨ v'.ownBlock = some (h + 1)) := by
  obtain ⟨i0, hi, hz0, hz1, hz2⟩ := info_parts Try.infoT7
  obtain ⟨v', X, r1, r2, r3, r5⟩ := StkW.push (ty := 46) hs (T := 46) (by kernel_rfl) hi hz0 hz1 hz2 rfl (by omega) [E.row] E.row.toArray (by simp) (fun r hr => by simp at hr; rw [hr]; rfl) (fun u hu => by
    simp only [List.flatten_cons, List.flatten_nil, List.append_nil] at hu
    exact task_ok E u hu) hh (by simp only [List.length_map, List.length_cons, List.length_nil]; omega) (by simp only [List.length_map, List.length_cons, List.length_nil]; omega) hB
  refine ⟨v', X, r1, ?_, r3, r5⟩
  unfold StkK
  rw [List.map_append]
  exact r2
theorem StkK.slice {B : Nat} {W : World} {v : Value} {S : List Task} {x : Task} (h : StkK B W v (S ++ [x])) : ∃ g cap cur, v = .slice (some ⟨g, 0, none⟩) (S.length + 1) cap ∧ B ≤ g ∧ g < W.heap.size ∧ S.length + 1 ≤ cap ∧ cap ≤ maxLen ∧ W.heap[g]? = some (.cells cur 64 (0, 0)) := by
  unfold StkK at h
  rw [List.map_append] at h
  have := StkW.slice h
  rwa [List.length_map] at this
theorem StkK.pop {B g cap : Nat} {W : World} {S : List Task} {x : Task} (h : StkK B W (.slice (some ⟨g, 0, none⟩) (S.length + 1) cap) (S ++ [x])) : StkK B W (.slice (some ⟨g, 0, none⟩) S.length cap) S := by
  unfold StkK at h ⊢
  rw [List.map_append, show S.length = (S.map Task.row).length by simp] at h
  have := StkW.pop h
  rwa [List.length_map] at this
theorem StkK.top {B g cap : Nat} {W : World} {S : List Task} {x : Task} (h : StkK B W (.slice (some ⟨g, 0, none⟩) (S.length + 1) cap) (S ++ [x])) {j : Nat} {u : Value} (hu : x.row[j]? = some u) : W.cell? ⟨g, S.length * 7 + j, none⟩ = some u := by
  unfold StkK at h
  rw [List.map_append, show S.length = (S.map Task.row).length by simp] at h
  have h0 := StkW.top (e := x.row) h hu
  rwa [List.length_map] at h0
theorem StkK.below {B : Nat} {W W' : World} {v : Value} {S : List Task} (h : StkK B W v S) (hb : Below W.heap.size W W') : StkK B W' v S := StkW.below h hb
theorem StkK.frame {B : Nat} {V V' : World} {v : Value} {S : List Task} (hs : StkK B V v S) (hk : ∀ g, v.ownBlock = some g → V'.heap[g]? = V.heap[g]?) : StkK B V' v S := StkW.kept hs hk
set_option maxRecDepth 100000 in
set_option maxHeartbeats 4000000 in
theorem leave_any {B wb : Nat} {V : World} {nx : Int} {lf : Value} {S : List Task} (E : Task) (hw : WrB V wb nx lf) (hS : StkK B V lf S) (hl : S.length + 1 ≤ 1099511627776) (hB : B ≤ V.heap.size) :
    Calls Try.prog 36 #[.pointer (some ⟨wb, 0, none⟩), E.val] V fun e V' => e = .returned (.tuple #[]) ∧ ∃ lf', WrB V' wb nx lf' ∧ StkK B V' lf' (S ++ [E]) ∧ FrG B (fun k => k = wb) V V' ∧ GrB (fun k => k = wb ∨ lf.ownBlock = some k) V.heap.size V V' ∧ (lf'.ownBlock = lf.ownBlock ∨ ∃ g, lf'.ownBlock = some g ∧ V.heap.size ≤ g) := by
  obtain ⟨W1, hW1⟩ : ∃ W1, V.alloc (.cells #[.int .i64 E.x.k, .int .i64 E.x.N, .string E.x.s, .slice E.x.a E.x.len E.x.cap, .pointer (some ⟨E.pf, 0, none⟩), .pointer (some ⟨E.pt, 0, none⟩), .pointer (some E.pl)] 64) = W1 := ⟨_, rfl⟩
  have g1 : Below V.heap.size V W1 := by rw [← hW1]; exact (Below.refl _ V).alloc (Nat.le_refl _) _
  have hs1 : W1.heap.size = V.heap.size + 1 := by rw [← hW1]; simp
  have hb1 : W1.heap[V.heap.size]? = some (.cells #[.int .i64 E.x.k, .int .i64 E.x.N, .string E.x.s, .slice E.x.a E.x.len E.x.cap, .pointer (some ⟨E.pf, 0, none⟩), .pointer (some ⟨E.pt, 0, none⟩), .pointer (some E.pl)] 64 (0, 0)) := by rw [← hW1]; exact World.alloc_heap_new V _
  obtain ⟨D1, hD1⟩ : ∃ D1, W1.drew = D1 := ⟨_, rfl⟩
  have hDB : Below W1.heap.size W1 D1 := by rw [← hD1]; exact (Below.refl _ W1).drew
  have hDs : D1.heap.size = W1.heap.size := by rw [← hD1]; rfl
  have gD := g1.trans (hDB.mono g1.size)
  have wD := hw.kept (gD.block wb hw.lt)
  have bD := (hDB.block V.heap.size (by omega)).trans hb1
  obtain ⟨lf', X, hr, hXS, hgr, hat⟩ := (hS.below gD).push (h := V.heap.size + 1) E (by omega) hl (by omega)
  obtain ⟨gg, cc, _, rfl, _⟩ := hXS.slice
  have gA : Below D1.heap.size D1 (D1.alloc (.cells E.row.toArray 64)) := (Below.refl _ D1).alloc (Nat.le_refl _) _
  have hown : ∀ g, lf.ownBlock = some g → g ≠ wb ∧ B ≤ g ∧ g < V.heap.size ∧ ∃ cur, V.heap[g]? = some (.cells cur 64 (0, 0)) := fun g hg => by
    obtain ⟨q1, q2, cur, q3⟩ := StkW.lt hS hg
    refine ⟨fun e => ?_, q1, q2, cur, q3⟩
    subst e
    rw [show V.heap[g]? = _ from hw] at q3
    cases q3
  have wA := wD.kept (gA.block wb wD.lt)
  have wX : WrB X wb nx lf := wA.kept (hgr.block wb wA.lt (fun e => (hown wb e.symm).1 rfl))
  have bA := (gA.block V.heap.size (by omega)).trans bD
  have bX : X.heap[V.heap.size]? = _ := (hgr.block V.heap.size (by have := gA.size; omega) (fun e => by have := (hown _ e.symm).2.2.1; omega)).trans bA
  have wF := setL_box wX (.slice (some ⟨gg, 0, none⟩) (S.length + 1) cc)
  have sF : StkK B (X.setCell ⟨wb, 1, none⟩ (.slice (some ⟨gg, 0, none⟩) (S.length + 1) cc)) (.slice (some ⟨gg, 0, none⟩) (S.length + 1) cc) (S ++ [E]) := hXS.frame fun g hg => Below.heap_setCell _ _ _ _ (fun e => by
    have e' : g = wb := e
    subst e'
    obtain ⟨_, _, cur, q3⟩ := StkW.lt hXS hg
    rw [show X.heap[g]? = _ from wX] at q3
    cases q3)
  have f1 : GrB (fun k => k = wb ∨ lf.ownBlock = some k) V.heap.size V X := by
    have := (GrB.of_below (X := fun k => k = wb ∨ lf.ownBlock = some k) (gD.trans (gA.mono (by omega))))
    refine ⟨hgr.os.trans this.os, hgr.tape.trans this.tape, hgr.output.trans this.output, Nat.le_trans this.size hgr.size, fun k hk hx => ?_⟩
    exact (hgr.block k (Nat.lt_of_lt_of_le hk this.size) (fun e => hx (.inr e.symm))).trans (this.block k hk hx)
  have f2 := f1.cellIn (b := wb) (.inl rfl) 1 (.slice (some ⟨gg, 0, none⟩) (S.length + 1) cc)
  have hF : FrG B (fun k => k = wb) V (X.setCell ⟨wb, 1, none⟩ (.slice (some ⟨gg, 0, none⟩) (S.length + 1) cc)) := by
    refine ⟨f2.os, f2.tape, f2.output, f2.size, fun k hk hx hc => f2.block k hk (fun e => ?_)⟩
    rcases e with e | e
    · exact hx e
    · obtain ⟨_, q1, _, cur, q3⟩ := hown k e
      rcases hc with hc | hc
      · omega
      · have := hc _ q3
        simp [ofK] at this
  obtain ⟨n0, n1⟩ := wD.cells
  obtain ⟨a0, a1⟩ := wA.cells
  obtain ⟨x0, x1⟩ := wX.cells
  have xz := wX.frz 1
  have hat2 : (Value.slice (some ⟨gg, 0, none⟩) (S.length + 1) cc).ownBlock = lf.ownBlock ∨ ∃ g, (Value.slice (some ⟨gg, 0, none⟩) (S.length + 1) cc).ownBlock = some g ∧ V.heap.size ≤ g := by
    rcases hat with h | h
    · exact .inl h
    · exact .inr ⟨_, h, by omega⟩
  have HZ := hide (And.intro wF (And.intro sF (And.intro hF (And.intro f2 hat2))))
  have hcells : ∀ W : World, W.heap[V.heap.size]? = some (.cells #[.int .i64 E.x.k, .int .i64 E.x.N, .string E.x.s, .slice E.x.a E.x.len E.x.cap, .pointer (some ⟨E.pf, 0, none⟩), .pointer (some ⟨E.pt, 0, none⟩), .pointer (some E.pl)] 64 (0, 0)) → W.cell? ⟨V.heap.size, 0, none⟩ = some (.int .i64 E.x.k) ∧ W.cell? ⟨V.heap.size, 1, none⟩ = some (.int .i64 E.x.N) ∧ W.cell? ⟨V.heap.size, 2, none⟩ = some (.string E.x.s) ∧ W.cell? ⟨V.heap.size, 3, none⟩ = some (.slice E.x.a E.x.len E.x.cap) ∧ W.cell? ⟨V.heap.size, 4, none⟩ = some (.pointer (some ⟨E.pf, 0, none⟩)) ∧ W.cell? ⟨V.heap.size, 5, none⟩ = some (.pointer (some ⟨E.pt, 0, none⟩)) ∧ W.cell? ⟨V.heap.size, 6, none⟩ = some (.pointer (some E.pl)) := fun W h => ⟨by simp [World.cell?, h], by simp [World.cell?, h], by simp [World.cell?, h], by simp [World.cell?, h], by simp [World.cell?, h], by simp [World.cell?, h], by simp [World.cell?, h]⟩
  have KD := hcells D1 bD
  have KA := hcells _ bA
  have KX := hcells X bX
  have KF := hcells _ ((Below.heap_setCell X ⟨wb, 1, none⟩ (.slice (some ⟨gg, 0, none⟩) (S.length + 1) cc) V.heap.size (fun e => by have e' : V.heap.size = wb := e; have := hw.lt; omega)).trans bX)
  have hrow : E.row.toArray = #[.int .i64 E.x.k, .int .i64 E.x.N, .string E.x.s, .slice E.x.a E.x.len E.x.cap, .pointer (some ⟨E.pf, 0, none⟩), .pointer (some ⟨E.pt, 0, none⟩), .pointer (some E.pl)] := rfl
  rw [hrow] at hr a1 a0 KA
  have HR := hide hr
  clear hr hXS hgr gA wA wX bX wF sF hF f1 f2 hat hat2 gD wD hS hw hDB hown n0 x0 bA bD hcells hb1 g1 a0
  simp only [Task.val, hrow]
  clear hrow
  go_enter Try.func36, Try.ntmps36
  go_wp2_with fail
  try rw [hW1]
  go_wp2_with fail
  refine wp_region_noPanic ?_
  refine wp_region_held_drew (S := fun w' => w'.cell? ⟨V.heap.size, 0, none⟩ = some (.int .i64 E.x.k) ∧ w'.cell? ⟨V.heap.size, 1, none⟩ = some (.int .i64 E.x.N) ∧ w'.cell? ⟨V.heap.size, 2, none⟩ = some (.string E.x.s) ∧ w'.cell? ⟨V.heap.size, 3, none⟩ = some (.slice E.x.a E.x.len E.x.cap) ∧ w'.cell? ⟨V.heap.size, 4, none⟩ = some (.pointer (some ⟨E.pf, 0, none⟩)) ∧ w'.cell? ⟨V.heap.size, 5, none⟩ = some (.pointer (some ⟨E.pt, 0, none⟩)) ∧ w'.cell? ⟨V.heap.size, 6, none⟩ = some (.pointer (some E.pl))) (by kernel_rfl) ?_ (fun hHeld => ?_)
  · rw [hD1]; exact KD
  rw [hD1] at hHeld ⊢
  clear hD1
  refine tk 0 rfl hHeld ?_
  refine tk 1 rfl hHeld ?_
  refine tk 2 rfl hHeld ?_
  refine tk 3 rfl hHeld ?_
  refine tk 5 rfl hHeld ?_
  refine wpAnyH_ready (rs := [4, 6]) (by kernel_rfl) (by simp) ?_
  refine rc 4 rfl (fun K hK => ?_) ?_
  · have hHold := hHeld
    clear hHeld
    go_simp
    refine hK.out _ _ ?_ (fun hHeld => ?_)
    · ((try dsimp only); exact KD)
    clear hK K hHold
    try simp only [pu]
    refine rd 6 rfl fun K hK => ?_
    have hHold := hHeld
    clear hHeld
    go_simp
    refine hK.out _ _ ?_ (fun hHeld => ?_)
    · ((try dsimp only); exact KA)
    clear hK K hHold
    try simp only [pu]
    refine rd 7 rfl fun K hK => ?_
    have hHold := hHeld
    clear hHeld
    rw [if_pos (by rfl)]
    refine wp_append_row _ _ _ rfl rfl rfl (unhide HR) ?_
    refine hK.out _ _ ?_ (fun hHeld => ?_)
    · ((try dsimp only); exact KX)
    clear hK K hHold
    try simp only [pu]
    refine tk 8 rfl hHeld ?_
    refine tk 9 rfl hHeld ?_
    refine rd 10 rfl fun K hK => ?_
    have hHold := hHeld
    clear hHeld
    go_simp
    refine hK.out _ _ ?_ (fun hHeld => ?_)
    · ((try dsimp only); exact KF)
    clear hK K hHold
    try simp only [pu]
    refine wpAnyH_done (by kernel_rfl) ?_ _
    refine NoPanic.normal ?_
    clear hHeld
    go_wp2_with fail
    exact bodyPost_end (v := .tuple #[]) (by simp [results, Try.results36, go_sem]) rfl ⟨rfl, _, unhide HZ⟩
  refine rc 6 rfl (fun K hK => ?_) AllReadyH.nil
  have hHold := hHeld
  clear hHeld
  go_simp
  refine hK.out _ _ ?_ (fun hHeld => ?_)
  · ((try dsimp only); exact KA)
  clear hK K hHold
  try simp only [pu]
  refine rd 4 rfl fun K hK => ?_
  have hHold := hHeld
  clear hHeld
  go_simp
  refine hK.out _ _ ?_ (fun hHeld => ?_)
  · ((try dsimp only); exact KA)
  clear hK K hHold
  try simp only [pu]
  refine rd 7 rfl fun K hK => ?_
  have hHold := hHeld
  clear hHeld
  rw [if_pos (by rfl)]
  refine wp_append_row _ _ _ rfl rfl rfl (unhide HR) ?_
  refine hK.out _ _ ?_ (fun hHeld => ?_)
  · ((try dsimp only); exact KX)
  clear hK K hHold
  try simp only [pu]
  refine tk 8 rfl hHeld ?_
  refine tk 9 rfl hHeld ?_
  refine rd 10 rfl fun K hK => ?_
  have hHold := hHeld
  clear hHeld
  go_simp
  refine hK.out _ _ ?_ (fun hHeld => ?_)
  · ((try dsimp only); exact KF)
  clear hK K hHold
  try simp only [pu]
  refine wpAnyH_done (by kernel_rfl) ?_ _
  refine NoPanic.normal ?_
  clear hHeld
  go_wp2_with fail
  exact bodyPost_end (v := .tuple #[]) (by simp [results, Try.results36, go_sem]) rfl ⟨rfl, _, unhide HZ⟩
end Go.Proofs.Ytcdgmjpgmiehcaa

/- A row with room is filled; grammar's extended. -/
namespace Go.Proofs.Ytcdgmjpgmiehcaa
open Go.RowKit Go.Shelf

theorem StkW.fit {k T ty : TypeId} {i : TypeInfo} {w B g cap h : Nat} {W : World} {S : List (List Value)} (hs : StkW k w B W (.slice (some ⟨g, 0, none⟩) S.length cap) S) (hu : Try.prog.underlying T = some (.slice k)) (hi : Try.prog.info? k = some i) (hsz : i.size = w)
    (E : List (List Value)) (arr : Array Value) (ha : arr.toList = E.flatten) (hE : ∀ r ∈ E, r.length = w) (h1 : ∀ u ∈ E.flatten, u.oneCell' = true) (hh : W.heap.size = h) (hroom : S.length + E.length ≤ cap) :
    ∃ X, (Builtin.append_ #[T, T] ty #[.slice (some ⟨g, 0, none⟩) S.length cap, .slice (some ⟨h, 0, none⟩) E.length E.length]).run Try.prog (W.alloc (.cells arr k)) = .ok (.slice (some ⟨g, 0, none⟩) (S.length + E.length) cap) X ∧ StkW k w B X (.slice (some ⟨g, 0, none⟩) (S.length + E.length) cap) (S ++ E) ∧ (W.alloc (.cells arr k)).grownBy X (some g) := by
  have hn := World.alloc_heap_new W (.cells arr k)
  rw [hh] at hn
  have hs' := hs.below ((Below.refl _ W).alloc (Nat.le_refl _) (.cells arr k))
  obtain ⟨X, r1, r2, r3⟩ := run_append_own_spare (P := Try.prog) (W.alloc (.cells arr k)) B T ty k i w hu hi hsz g S.length cap S.flatten hs'.2 ⟨h, 0, none⟩ E.length E.length E.flatten (flat_len hE) (fun j u hu => by
    rw [← ha] at hu
    have : arr[j]? = some u := by simpa using hu
    cases j with
    | zero => simp [World.cell?, Addr.add, hn, this]
    | succ j => simp [World.cell?, Addr.add, hn, this]) h1 hroom
  refine ⟨X, r1, ⟨fun r hr => ?_, ?_⟩, r3⟩
  · rcases List.mem_append.1 hr with hr | hr
    · exact hs.1 r hr
    · exact hE r hr
  · rw [List.length_append, List.flatten_append]
    exact r2
theorem StkT.fit {B g cap h : Nat} {W : World} {S : List TV} (hs : StkT B W (.slice (some ⟨g, 0, none⟩) S.length cap) S) (E : List TV) (arr : Array Value) (ha : arr.toList = (E.map trow).flatten) (hh : W.heap.size = h) (hroom : S.length + E.length ≤ cap) :
    ∃ X, (Builtin.append_ #[22, 22] 22 #[.slice (some ⟨g, 0, none⟩) S.length cap, .slice (some ⟨h, 0, none⟩) E.length E.length]).run Try.prog (W.alloc (.cells arr 24)) = .ok (.slice (some ⟨g, 0, none⟩) (S.length + E.length) cap) X ∧ StkT B X (.slice (some ⟨g, 0, none⟩) (S.length + E.length) cap) (S ++ E) ∧ (W.alloc (.cells arr 24)).grownBy X (some g) := by
  obtain ⟨i0, hi, hz0, hz1, hz2⟩ := info_parts Try.infoT4
  have hs0 : StkW 24 4 B W (.slice (some ⟨g, 0, none⟩) (S.map trow).length cap) (S.map trow) := by rw [List.length_map]; exact hs
  obtain ⟨X, r1, r2, r3⟩ := StkW.fit (ty := 22) hs0 Try.underlying22 hi hz1 (E.map trow) arr ha (fun r hr => by obtain ⟨x, _, rfl⟩ := List.mem_map.1 hr; rfl) (fun u hu => by
    obtain ⟨r, hr, hu⟩ := List.mem_flatten.1 hu
    obtain ⟨x, _, rfl⟩ := List.mem_map.1 hr
    exact trow_ok x u hu) hh (by rw [List.length_map, List.length_map]; exact hroom)
  rw [List.length_map, List.length_map] at r1 r2
  refine ⟨X, r1, ?_, r3⟩
  unfold StkT
  rw [List.map_append]
  exact r2
/-- What stands at a place of such a row. -/
theorem StkT.at {B g cap n : Nat} {W : World} {S : List TV} (hs : StkT B W (.slice (some ⟨g, 0, none⟩) n cap) S) (hn : n = S.length) {j : Nat} {x : TV} (hx : S[j]? = some x) : cellsAt W g (j * 4) x := by
  subst hn
  have hj : j < S.length := (List.getElem?_eq_some_iff.1 hx).1
  have h2 : W.ownsRow B 24 4 (.slice (some ⟨g, 0, none⟩) S.length cap) S.length (S.map trow).flatten := by
    have := hs.2
    rw [List.length_map] at this
    exact this
  have hrow : ∀ (S : List TV) (j : Nat) (x : TV), S[j]? = some x → ∀ i u, (trow x)[i]? = some u → ((S.map trow).flatten)[j * 4 + i]? = some u := by
    intro S
    induction S with
    | nil => intro j x hx; simp at hx
    | cons a S ih =>
      intro j x hx i u hu
      cases j with
      | zero =>
        simp at hx
        subst hx
        rw [Nat.zero_mul, Nat.zero_add, List.map_cons, List.flatten_cons, List.getElem?_append_left (List.getElem?_eq_some_iff.1 hu).1]
        exact hu
      | succ j =>
        rw [List.map_cons, List.flatten_cons, List.getElem?_append_right (by simp [trow]; omega)]
        have := ih j x (by simpa using hx) i u hu
        rw [show (j + 1) * 4 + i - (trow a).length = j * 4 + i by simp [trow]; omega]
        exact this
  have hc : ∀ i u, (trow x)[i]? = some u → W.cell? ⟨g, j * 4 + i, none⟩ = some u := fun i u hu => by
    have hi : i < 4 := by have := (List.getElem?_eq_some_iff.1 hu).1; simpa [trow] using this
    rw [World.ownsRow.cellAt h2 (j * 4 + i) (by omega)]
    exact hrow S j x hx i u hu
  exact ⟨hc 0 _ rfl, hc 1 _ rfl, hc 2 _ rfl, hc 3 _ rfl⟩
end Go.Proofs.Ytcdgmjpgmiehcaa

/- Terms whose rows are blocks of terms; a compound of a row; grammar's extended. -/
namespace Go.Proofs.Ytcdgmjpgmiehcaa
open Go.RowKit Go.Shelf

/-- A block of terms, from lo on. -/
def KT (lo : Nat) (W : World) (k : Nat) : Prop := lo ≤ k ∧ ∃ arr, W.heap[k]? = some (.cells arr 24 (0, 0))
/-- The value v is a term of the code c; its rows are whole blocks of terms from lo on, that P holds of, with no room behind them. -/
def HoldsG (P : Nat → Prop) (D lo : Nat) (W : World) (v : Value) (c : List Nd) : Prop :=
  ∀ m, D ≤ m → m ≤ 2199023255552 → ∃ t : Tm m, v = t.tv.val ∧ IsT W.heap.size W t ∧ (BlkT (fun k => P k ∧ KT lo W k) t ∧ Rows W t) ∧ code t = c
theorem HoldsG.s {P : Nat → Prop} {D lo : Nat} {W : World} {v : Value} {c : List Nd} (h : HoldsG P D lo W v c) : HoldsS D (fun k => P k ∧ KT lo W k) W v c := fun m hm hl => by
  obtain ⟨t, h1, h2, h3, h4⟩ := h m hm hl
  exact ⟨t, h1, h2, h3.1, h4⟩
theorem holdsG_of {n lo : Nat} {t : Tm n} {P : Nat → Prop} {W : World} (hT : IsT W.heap.size W t) (hS : BlkT (fun k => P k ∧ KT lo W k) t) (hR : Rows W t) : HoldsG P n lo W t.tv.val (code t) := fun m hm hl => by
  obtain ⟨k, rfl⟩ : ∃ k, m = n + k := ⟨m - n, by omega⟩
  clear hm
  induction k with
  | zero => exact ⟨t, rfl, hT, ⟨hS, hR⟩, rfl⟩
  | succ k ih =>
    obtain ⟨t', h1, h2, h3, h4⟩ := ih (by omega)
    exact ⟨t'.lift, by rw [lift_tv]; exact h1, lift_isT h2 hl, ⟨lift_blk h3.1, lift_rows h3.2⟩, by rw [lift_code]; exact h4⟩
theorem Rows.moveB {S : Nat → Prop} {A B : World} (hs : ∀ k, S k → B.heap[k]? = A.heap[k]?) : ∀ {n : Nat} {t : Tm n}, Rows A t → BlkT S t → Rows B t := by
  intro n
  induction n with
  | zero => intro t; exact Empty.elim t
  | succ n ih =>
    intro t hr hb
    obtain ⟨x, kids⟩ := t
    obtain ⟨r1, r2⟩ := hr
    obtain ⟨b1, b2⟩ := hb
    refine ⟨?_, fun u hu => ih (r2 u hu) (b2 u hu)⟩
    rcases r1 with r1 | ⟨b, arr, ha, hB, hz, hc, hl⟩
    · exact .inl r1
    · rcases b1 with b1 | ⟨b', off, ha', hs'⟩
      · exact .inl ⟨b1, hc.trans (hl.trans (by rw [b1]; rfl))⟩
      · rw [ha] at ha'
        simp at ha'
        exact .inr ⟨b, arr, ha, (hs b (ha'.1 ▸ hs')).trans hB, hz, hc, hl⟩
theorem HoldsG.weak {P P' : Nat → Prop} {D D' lo lo' : Nat} {W : World} {v : Value} {c : List Nd} (h : HoldsG P D lo W v c) (hD : D ≤ D') (hP : ∀ k, P k ∧ KT lo W k → P' k ∧ KT lo' W k) : HoldsG P' D' lo' W v c := fun m hm hl => by
  obtain ⟨t, h1, h2, h3, h4⟩ := h m (by omega) hl
  exact ⟨t, h1, h2, ⟨h3.1.mono hP, h3.2⟩, h4⟩
theorem KT.lt {lo : Nat} {W : World} {k : Nat} (h : KT lo W k) : k < W.heap.size := by obtain ⟨_, arr, h⟩ := h; exact (Array.getElem?_eq_some_iff.1 h).1
theorem HoldsG.mono {P P' : Nat → Prop} {D D' lo lo' : Nat} {W : World} {v : Value} {c : List Nd} (h : HoldsG P D lo W v c) (hD : D ≤ D') (hl : lo' ≤ lo) (hP : ∀ k, P k → P' k) : HoldsG P' D' lo' W v c :=
  h.weak hD fun k hk => ⟨hP k hk.1, Nat.le_trans hl hk.2.1, hk.2.2⟩
theorem HoldsG.move {P : Nat → Prop} {D lo : Nat} {A B : World} {v : Value} {c : List Nd} (h : HoldsG P D lo A v c) (hk : ∀ k, P k → KT lo A k → B.heap[k]? = A.heap[k]?) (hs : A.heap.size ≤ B.heap.size) : HoldsG P D lo B v c := fun m hm hl => by
  obtain ⟨t, h1, h2, ⟨h3, h3'⟩, h4⟩ := h m hm hl
  have hb : ∀ k, (P k ∧ KT lo A k) → B.heap[k]? = A.heap[k]? := fun k hk' => hk k hk'.1 hk'.2
  exact ⟨t, h1, (h2.fromS hb h3).mono hs, ⟨h3.mono (fun k hk' => ⟨hk'.1, hk'.2.1, by obtain ⟨arr, ha⟩ := hk'.2.2; exact ⟨arr, (hb k hk').trans ha⟩⟩), h3'.moveB hb h3⟩, h4⟩
theorem HoldsG.below {P : Nat → Prop} {D lo : Nat} {A B : World} {v : Value} {c : List Nd} (h : HoldsG P D lo A v c) (hb : Below A.heap.size A B) : HoldsG P D lo B v c := h.move (fun k _ hk => hb.block k hk.lt) hb.size
theorem HoldsG.frame {P : Nat → Prop} {D lo B0 : Nat} {X : Nat → Prop} {A B : World} {v : Value} {c : List Nd} (h : HoldsG P D lo A v c) (hf : FrG B0 X A B) (hX : ∀ k, P k → KT lo A k → ¬ X k) : HoldsG P D lo B v c :=
  h.move (fun k hp hk => hf.block k hk.lt (hX k hp hk) (.inr fun o ho => by
    obtain ⟨_, arr, ha⟩ := hk
    rw [ha] at ho
    cases ho
    simp [ofK])) hf.size
theorem wh_blk {lo : Nat} {W : World} : ∀ {n : Nat} {t : Tm n}, WhT lo W t → BlkT (KT lo W) t := by
  intro n
  induction n with
  | zero => intro t; exact Empty.elim t
  | succ n ih =>
    intro t hw
    obtain ⟨w1, w2⟩ := hw
    refine ⟨?_, fun u hu => ih (w2 u hu)⟩
    rcases w1 with w1 | ⟨b, arr, hlo, ha, _, hb, _⟩
    · exact .inl w1.1
    · exact .inr ⟨b, 0, ha, hlo, arr, hb⟩
theorem HoldsT.holdsG {D lo : Nat} {W : World} {v : Value} {c : List Nd} (h : HoldsT D lo W v c) {P : Nat → Prop} (hP : ∀ k, lo ≤ k → P k) : HoldsG P D lo W v c := fun m hm hl => by
  obtain ⟨t, h1, h2, h3, h4⟩ := h m hm
  exact ⟨t, h1, h2 hl, ⟨(wh_blk h3.wh).mono (fun k hk => ⟨hP k hk.1, hk⟩), h3.wh.rows (h2 hl).wl⟩, h4⟩
theorem kids_of {P : Nat → Prop} {D lo g : Nat} {W : World} {M : Nat} (hM : D ≤ M) (hl : M ≤ 2199023255552) : ∀ (xs : List TV) (cs : List (List Nd)) (i : Nat), cs.length = xs.length → (∀ j x c, xs[j]? = some x → cs[j]? = some c → cellsAt W g ((i + j) * 4) x ∧ HoldsG P D lo W x.val c) →
    ∃ ks : List (Tm M), ks.length = xs.length ∧ (∀ j u, ks[j]? = some u → cellsAt W g ((i + j) * 4) u.tv ∧ IsT W.heap.size W u ∧ (BlkT (fun k => P k ∧ KT lo W k) u ∧ Rows W u)) ∧ ks.flatMap code = cs.flatten
  | [], [], _, _, _ => ⟨[], rfl, fun j u h => by simp at h, rfl⟩
  | [], _ :: _, _, h, _ => by simp at h
  | _ :: _, [], _, h, _ => by simp at h
  | x :: xs, c :: cs, i, hlen, h => by
    obtain ⟨h1, h2⟩ := h 0 x c rfl rfl
    obtain ⟨t, e1, e2, e3, e4⟩ := h2 M hM hl
    obtain rfl := tv_inj e1
    obtain ⟨ks, k1, k2, k3⟩ := kids_of hM hl xs cs (i + 1) (by simpa using hlen) (fun j y d hy hd => by
      have := h (j + 1) y d (by simpa using hy) (by simpa using hd)
      rw [show i + (j + 1) = i + 1 + j by omega] at this
      exact this)
    refine ⟨t :: ks, by simp [k1], fun j u hu => ?_, by simp [e4, k3]⟩
    cases j with
    | zero =>
      simp at hu
      subst hu
      exact ⟨h1, e2, e3⟩
    | succ j =>
      have := k2 j u (by simpa using hu)
      rw [show i + 1 + j = i + (j + 1) by omega] at this
      exact this
/-- A compound whose Args stand in a row. -/
theorem comp_G {P : Nat → Prop} {D lo g cap : Nat} {W : World} {s : ByteArray} {xs : List TV} {cs : List (List Nd)} (hs : s.size ≤ 9223372036854775807) (hl : xs.length ≤ 9223372036854775807) (hcl : cs.length = xs.length) (hg : lo ≤ g ∧ ∃ arr, W.heap[g]? = some (.cells arr 24 (0, 0)) ∧ arr.size = xs.length * 4) (hP : P g) (hcap : xs.length = cap)
    (hx : ∀ j x c, xs[j]? = some x → cs[j]? = some c → cellsAt W g (j * 4) x ∧ HoldsG P D lo W x.val c) : HoldsG P (D + 1) lo W (compV s (some ⟨g, 0, none⟩) xs.length cap).val ((4, 0, s.toList, xs.length) :: cs.flatten) := fun m hm hlim => by
  obtain ⟨M, rfl⟩ : ∃ M, m = M + 1 := ⟨m - 1, by omega⟩
  obtain ⟨ks, k1, k2, k3⟩ := kids_of (P := P) (D := D) (lo := lo) (g := g) (W := W) (M := M) (by omega) (by omega) xs cs 0 hcl (fun j x c h1 h2 => by rw [Nat.zero_add]; exact hx j x c h1 h2)
  obtain ⟨hlo, arr, hgk, hgz⟩ := hg
  refine ⟨((compV s (some ⟨g, 0, none⟩) xs.length cap, ks) : TV × List (Tm M)), rfl, ⟨k1.symm, ⟨hl, Nat.le_of_eq hcap, hlim⟩, hs, .inr ⟨g, 0, rfl, (Array.getElem?_eq_some_iff.1 hgk).1, fun j u hu => ?_⟩⟩, ⟨⟨.inr ⟨g, 0, rfl, hP, hlo, arr, hgk⟩, fun u hu => ?_⟩, .inr ⟨g, arr, rfl, hgk, hgz, hcap.symm, k1.symm⟩, fun u hu => ?_⟩, ?_⟩
  · obtain ⟨q1, q2, _⟩ := k2 j u hu
    rw [Nat.zero_add] at q1 ⊢
    exact ⟨q1, q2⟩
  · obtain ⟨j, hj⟩ := List.mem_iff_getElem?.1 hu
    exact (k2 j u hj).2.2.1
  · obtain ⟨j, hj⟩ := List.mem_iff_getElem?.1 hu
    exact (k2 j u hj).2.2.2
  · rw [code_succ, k3]; rfl
end Go.Proofs.Ytcdgmjpgmiehcaa

