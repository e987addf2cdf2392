import Derived.Test.YtcdgmjpgmiehcaaGqT
/- Regions 6 and 15 of grammar's Translate. (Written by wip/gqtransgen.py.) -/
namespace Go.Proofs.Ytcdgmjpgmiehcaa
open Go.RowKit Go.Shelf

set_option maxRecDepth 100000 in
set_option maxHeartbeats 4000000 in
theorem wp_trans6 {ob Bk off oc : Nat} {h b : TV} {v0 v1 v2 v3 v5 v6 v7 v8 v9 v10 v11 v12 v13 v14 v15 v16 v17 v18 v19 v20 v21 v22 v23 v24 v25 v26 v27 v28 v29 v30 v31 v32 v33 v34 v35 v36 v37 v38 v39 v40 v41 v42 v43 v44 v45 v46 v47 v48 v49 v50 v51 v52 v53 v54 v55 v56 v57 v58 v59 v60 v61 v62 v63 v64 v65 v66 v67 v68 v69 v70 v71 v72 v73 v74 v75 v76 v77 v78 : Value} {d : List Deferred} {W0 : World} {Q : Exit → Act → World → Prop} (hob : ob < W0.heap.size) (hBk : Bk < W0.heap.size)
    (hc : W0.cell? ⟨ob, 3, none⟩ = some (.slice (some ⟨Bk, off, none⟩) 2 oc) ∧ W0.cell? ⟨Bk, off, none⟩ = some (.int .i64 h.k) ∧ W0.cell? ⟨Bk, off + 1, none⟩ = some (.int .i64 h.N) ∧ W0.cell? ⟨Bk, off + 2, none⟩ = some (.string h.s) ∧ W0.cell? ⟨Bk, off + 3, none⟩ = some (.slice h.a h.len h.cap) ∧ W0.cell? ⟨Bk, off + 4, none⟩ = some (.int .i64 b.k) ∧ W0.cell? ⟨Bk, off + 4 + 1, none⟩ = some (.int .i64 b.N) ∧ W0.cell? ⟨Bk, off + 4 + 2, none⟩ = some (.string b.s) ∧ W0.cell? ⟨Bk, off + 4 + 3, none⟩ = some (.slice b.a b.len b.cap))
    (hQ : ∀ (W : World) (b1 b2 : Nat) (u30 u31 u32 u33 u34 u35 u36 u37 : Value), Below W0.heap.size W0 W → W0.heap.size ≤ b1 → W0.heap.size ≤ b2 → b1 ≠ b2 → BoxT W b1 h → BoxT W b2 b → Q .normal ⟨#[v0, v1, v2, v3, .pointer (some ⟨ob, 0, none⟩), v5, v6, .pointer (some ⟨b1, 0, none⟩), .pointer (some ⟨b2, 0, none⟩), v9, v10, v11, v12, v13, v14, v15, v16, v17, v18, v19, v20, v21, v22, v23, v24, v25, v26, v27, v28, v29, u30, u31, u32, u33, u34, u35, u36, u37, v38, v39, v40, v41, v42, v43, v44, v45, v46, v47, v48, v49, v50, v51, v52, v53, v54, v55, v56, v57, v58, v59, v60, v61, v62, v63, v64, v65, v66, v67, v68, v69, v70, v71, v72, v73, v74, v75, v76, v77, v78], d⟩ W) :
    (Code.region 6 #[{ dst := some 30, op := Op.fieldAddr 24 (Operand.tmp 4) 3, type := 0, pos := "grammar.go:18", after := #[], guard := none }, { dst := some 31, op := Op.load 22 (Operand.tmp 30), type := 22, pos := "grammar.go:18", after := #[{ on := 0, ground := Ground.data }], guard := none }, { dst := some 32, op := Op.indexAddr 22 (Operand.tmp 31) (Operand.const (Value.int IntKind.i64 0)), type := 0, pos := "grammar.go:18", after := #[{ on := 1, ground := Ground.data }], guard := none }, { dst := some 33, op := Op.load 24 (Operand.tmp 32), type := 24, pos := "grammar.go:18", after := #[{ on := 2, ground := Ground.data }], guard := none }, { dst := some 34, op := Op.fieldAddr 24 (Operand.tmp 4) 3, type := 0, pos := "grammar.go:18", after := #[{ on := 10, ground := Ground.gcOnly Departure.lateStores }], guard := none }, { dst := some 35, op := Op.load 22 (Operand.tmp 34), type := 22, pos := "grammar.go:18", after := #[{ on := 4, ground := Ground.data }, { on := 10, ground := Ground.gcOnly Departure.lateStores }], guard := none }, { dst := some 36, op := Op.indexAddr 22 (Operand.tmp 35) (Operand.const (Value.int IntKind.i64 1)), type := 0, pos := "grammar.go:18", after := #[{ on := 5, ground := Ground.data }, { on := 10, ground := Ground.gcOnly Departure.lateStores }], guard := none }, { dst := some 37, op := Op.load 24 (Operand.tmp 36), type := 24, pos := "grammar.go:18", after := #[{ on := 6, ground := Ground.data }, { on := 10, ground := Ground.gcOnly Departure.lateStores }], guard := none }, { dst := some 7, op := Op.alloc 24, type := 0, pos := "grammar.go:18", after := #[], guard := none }, { dst := some 8, op := Op.alloc 24, type := 0, pos := "grammar.go:18", after := #[], guard := none }, { dst := none, op := Op.store 24 (Operand.tmp 7) (Operand.tmp 33), type := 0, pos := "grammar.go:18", after := #[{ on := 8, ground := Ground.data }, { on := 3, ground := Ground.data }, { on := 0, ground := Ground.phase }, { on := 1, ground := Ground.phase }, { on := 2, ground := Ground.phase }, { on := 3, ground := Ground.phase }, { on := 4, ground := Ground.textOnly Departure.lateStores }, { on := 5, ground := Ground.textOnly Departure.lateStores }, { on := 6, ground := Ground.textOnly Departure.lateStores }, { on := 7, ground := Ground.textOnly Departure.lateStores }, { on := 8, ground := Ground.phase }, { on := 9, ground := Ground.phase }], guard := none }, { dst := none, op := Op.store 24 (Operand.tmp 8) (Operand.tmp 37), type := 0, pos := "grammar.go:18", after := #[{ on := 9, ground := Ground.data }, { on := 7, ground := Ground.data }, { on := 10, ground := Ground.chain }, { on := 0, ground := Ground.phase }, { on := 1, ground := Ground.phase }, { on := 2, ground := Ground.phase }, { on := 3, ground := Ground.phase }, { on := 4, ground := Ground.phase }, { on := 5, ground := Ground.phase }, { on := 6, ground := Ground.phase }, { on := 7, ground := Ground.phase }, { on := 8, ground := Ground.phase }, { on := 9, ground := Ground.phase }, { on := 10, ground := Ground.phase }], guard := none }] true).wp Try.prog Q ⟨#[v0, v1, v2, v3, .pointer (some ⟨ob, 0, none⟩), v5, v6, v7, v8, v9, v10, v11, v12, v13, v14, v15, v16, v17, v18, v19, v20, v21, v22, v23, v24, v25, v26, v27, v28, v29, v30, v31, v32, v33, v34, v35, v36, v37, v38, v39, v40, v41, v42, v43, v44, v45, v46, v47, v48, v49, v50, v51, v52, v53, v54, v55, v56, v57, v58, v59, v60, v61, v62, v63, v64, v65, v66, v67, v68, v69, v70, v71, v72, v73, v74, v75, v76, v77, v78], d⟩ W0 := by
  obtain ⟨D1, hD1⟩ : ∃ D1, W0.drew = D1 := ⟨_, rfl⟩
  have hDB : Below W0.heap.size W0 D1 := by rw [← hD1]; exact (Below.refl _ W0).drew
  have hDs : D1.heap.size = W0.heap.size := by rw [← hD1]; rfl
  have hA1 : Below D1.heap.size D1 (D1.alloc (.cells #[.int .i64 0, .int .i64 0, .string ⟨#[]⟩, .slice none 0 0] 24)) := (Below.refl _ D1).alloc (Nat.le_refl _) _
  obtain ⟨X2, hX2⟩ : ∃ X2, (D1.alloc (.cells #[.int .i64 0, .int .i64 0, .string ⟨#[]⟩, .slice none 0 0] 24)).alloc (.cells #[.int .i64 0, .int .i64 0, .string ⟨#[]⟩, .slice none 0 0] 24) = X2 := ⟨_, rfl⟩
  have sX2 : X2.heap.size = D1.heap.size + 2 := by rw [← hX2]; simp
  have z1 : BoxT X2 D1.heap.size noTerm := by rw [← hX2]; exact (BoxT.new D1 noTerm).alloc _
  have z2 : BoxT X2 (D1.heap.size + 1) noTerm := by
    rw [← hX2]
    have h0 := BoxT.new (D1.alloc (.cells #[.int .i64 0, .int .i64 0, .string ⟨#[]⟩, .slice none 0 0] 24)) noTerm
    rw [World.size_alloc] at h0
    exact h0
  have hB2 : Below W0.heap.size W0 X2 := by rw [← hX2]; exact (hDB.trans (hA1.mono (by omega))).alloc (by simp; omega) _
  have KEEP : Hid (∀ U : World, (∀ k, k < W0.heap.size → U.heap[k]? = W0.heap[k]?) → (U.cell? ⟨ob, 3, none⟩ = some (.slice (some ⟨Bk, off, none⟩) 2 oc) ∧ U.cell? ⟨Bk, off, none⟩ = some (.int .i64 h.k) ∧ U.cell? ⟨Bk, off + 1, none⟩ = some (.int .i64 h.N) ∧ U.cell? ⟨Bk, off + 2, none⟩ = some (.string h.s) ∧ U.cell? ⟨Bk, off + 3, none⟩ = some (.slice h.a h.len h.cap) ∧ U.cell? ⟨Bk, off + 4, none⟩ = some (.int .i64 b.k) ∧ U.cell? ⟨Bk, off + 4 + 1, none⟩ = some (.int .i64 b.N) ∧ U.cell? ⟨Bk, off + 4 + 2, none⟩ = some (.string b.s) ∧ U.cell? ⟨Bk, off + 4 + 3, none⟩ = some (.slice b.a b.len b.cap))) := hide fun U hU => by
    have e1 : ∀ j, U.cell? ⟨ob, j, none⟩ = W0.cell? ⟨ob, j, none⟩ := fun j => World.cell?_of_block (hU ob hob)
    have e2 : ∀ j, U.cell? ⟨Bk, j, none⟩ = W0.cell? ⟨Bk, j, none⟩ := fun j => World.cell?_of_block (hU Bk hBk)
    obtain ⟨c0, c1, c2, c3, c4, c5, c6, c7, c8⟩ := hc
    exact ⟨(e1 _).trans c0, (e2 _).trans c1, (e2 _).trans c2, (e2 _).trans c3, (e2 _).trans c4, (e2 _).trans c5, (e2 _).trans c6, (e2 _).trans c7, (e2 _).trans c8⟩
  have ka0 : ∀ k, k < W0.heap.size → D1.heap[k]? = W0.heap[k]? := fun k hk => hDB.block k hk
  have ka1 : ∀ k, k < W0.heap.size → (D1.alloc (.cells #[.int .i64 0, .int .i64 0, .string ⟨#[]⟩, .slice none 0 0] 24)).heap[k]? = W0.heap[k]? := fun k hk => (hA1.block k (by omega)).trans (ka0 k hk)
  have ka2 : ∀ k, k < W0.heap.size → X2.heap[k]? = W0.heap[k]? := fun k hk => hB2.block k hk
  obtain ⟨X3A, hX3A⟩ : ∃ X3, set4 X2 (D1.heap.size) 0 h = X3 := ⟨_, rfl⟩
  obtain ⟨X4A, hX4A⟩ : ∃ X4, set4 X3A (D1.heap.size + 1) 0 b = X4 := ⟨_, rfl⟩
  have o3A : ∀ k, k ≠ D1.heap.size → X3A.heap[k]? = X2.heap[k]? := fun k hk => by rw [← hX3A]; exact set4_other _ _ _ _ hk
  have o4A : ∀ k, k ≠ D1.heap.size + 1 → X4A.heap[k]? = X3A.heap[k]? := fun k hk => by rw [← hX4A]; exact set4_other _ _ _ _ hk
  have s3A : X3A.heap.size = X2.heap.size := by rw [← hX3A, set4_size]
  have s4A : X4A.heap.size = X3A.heap.size := by rw [← hX4A, set4_size]
  have x7A : BoxT X2 (D1.heap.size) noTerm := by first | exact z1 | exact z2
  have x8A : BoxT X3A (D1.heap.size + 1) noTerm := (o3A _ (by omega)).trans (by first | exact z1 | exact z2)
  have y7A : BoxT X3A (D1.heap.size) h := by rw [← hX3A]; exact set4_box x7A h
  have y8A : BoxT X4A (D1.heap.size + 1) b := by rw [← hX4A]; exact set4_box x8A b
  have ka3A : ∀ k, k < W0.heap.size → X3A.heap[k]? = W0.heap[k]? := fun k hk => (o3A k (by omega)).trans (ka2 k hk)
  have ka4A : ∀ k, k < W0.heap.size → X4A.heap[k]? = W0.heap[k]? := fun k hk => (o4A k (by omega)).trans (ka3A k hk)
  have HQA := hide (hQ X4A (D1.heap.size) (D1.heap.size + 1) (.pointer (some ⟨ob, 3, none⟩)) (.slice (some ⟨Bk, off, none⟩) 2 oc) (.pointer (some ⟨Bk, off, none⟩)) (.agg #[.int .i64 h.k, .int .i64 h.N, .string h.s, .slice h.a h.len h.cap]) (.pointer (some ⟨ob, 3, none⟩)) (.slice (some ⟨Bk, off, none⟩) 2 oc) (.pointer (some ⟨Bk, off + 4, none⟩)) (.agg #[.int .i64 b.k, .int .i64 b.N, .string b.s, .slice b.a b.len b.cap]) (by
    have h3 : Below W0.heap.size W0 X3A := by rw [← hX3A]; exact set4_below hB2 (by omega) 0 h
    rw [← hX4A]; exact set4_below h3 (by omega) 0 b) (by omega) (by omega) (by omega) ((o4A _ (by omega)).trans y7A) y8A)
  obtain ⟨m0A, m1A, m2A, m3A⟩ := x7A.frz
  have i0A := x7A.c0
  have i1A := x7A.c1
  have i2A := x7A.c2
  have i3A := x7A.c3
  obtain ⟨p0A, p1A, p2A, p3A⟩ := x8A.frz
  have q0A := x8A.c0
  have q1A := x8A.c1
  have q2A := x8A.c2
  have q3A := x8A.c3
  unfold set4 at hX3A hX4A
  simp only [Nat.zero_add] at hX3A hX4A
  obtain ⟨X3B, hX3B⟩ : ∃ X3, set4 X2 (D1.heap.size + 1) 0 h = X3 := ⟨_, rfl⟩
  obtain ⟨X4B, hX4B⟩ : ∃ X4, set4 X3B (D1.heap.size) 0 b = X4 := ⟨_, rfl⟩
  have o3B : ∀ k, k ≠ D1.heap.size + 1 → X3B.heap[k]? = X2.heap[k]? := fun k hk => by rw [← hX3B]; exact set4_other _ _ _ _ hk
  have o4B : ∀ k, k ≠ D1.heap.size → X4B.heap[k]? = X3B.heap[k]? := fun k hk => by rw [← hX4B]; exact set4_other _ _ _ _ hk
  have s3B : X3B.heap.size = X2.heap.size := by rw [← hX3B, set4_size]
  have s4B : X4B.heap.size = X3B.heap.size := by rw [← hX4B, set4_size]
  have x7B : BoxT X2 (D1.heap.size + 1) noTerm := by first | exact z1 | exact z2
  have x8B : BoxT X3B (D1.heap.size) noTerm := (o3B _ (by omega)).trans (by first | exact z1 | exact z2)
  have y7B : BoxT X3B (D1.heap.size + 1) h := by rw [← hX3B]; exact set4_box x7B h
  have y8B : BoxT X4B (D1.heap.size) b := by rw [← hX4B]; exact set4_box x8B b
  have ka3B : ∀ k, k < W0.heap.size → X3B.heap[k]? = W0.heap[k]? := fun k hk => (o3B k (by omega)).trans (ka2 k hk)
  have ka4B : ∀ k, k < W0.heap.size → X4B.heap[k]? = W0.heap[k]? := fun k hk => (o4B k (by omega)).trans (ka3B k hk)
  have HQB := hide (hQ X4B (D1.heap.size + 1) (D1.heap.size) (.pointer (some ⟨ob, 3, none⟩)) (.slice (some ⟨Bk, off, none⟩) 2 oc) (.pointer (some ⟨Bk, off, none⟩)) (.agg #[.int .i64 h.k, .int .i64 h.N, .string h.s, .slice h.a h.len h.cap]) (.pointer (some ⟨ob, 3, none⟩)) (.slice (some ⟨Bk, off, none⟩) 2 oc) (.pointer (some ⟨Bk, off + 4, none⟩)) (.agg #[.int .i64 b.k, .int .i64 b.N, .string b.s, .slice b.a b.len b.cap]) (by
    have h3 : Below W0.heap.size W0 X3B := by rw [← hX3B]; exact set4_below hB2 (by omega) 0 h
    rw [← hX4B]; exact set4_below h3 (by omega) 0 b) (by omega) (by omega) (by omega) ((o4B _ (by omega)).trans y7B) y8B)
  obtain ⟨m0B, m1B, m2B, m3B⟩ := x7B.frz
  have i0B := x7B.c0
  have i1B := x7B.c1
  have i2B := x7B.c2
  have i3B := x7B.c3
  obtain ⟨p0B, p1B, p2B, p3B⟩ := x8B.frz
  have q0B := x8B.c0
  have q1B := x8B.c1
  have q2B := x8B.c2
  have q3B := x8B.c3
  unfold set4 at hX3B hX4B
  simp only [Nat.zero_add] at hX3B hX4B
  have kD := (unhide KEEP) D1 ka0
  clear hQ hc hDB hA1 hB2 z1 z2 x7A x8A y7A y8A x7B x8B y7B y8B o3A o4A o3B o4B s3A s4A s3B s4B sX2 hDs
  refine wp_region_noPanic ?_
  refine wp_region_held_drew (S := fun w' => w'.cell? ⟨ob, 3, none⟩ = some (.slice (some ⟨Bk, off, none⟩) 2 oc) ∧ w'.cell? ⟨Bk, off, none⟩ = some (.int .i64 h.k) ∧ w'.cell? ⟨Bk, off + 1, none⟩ = some (.int .i64 h.N) ∧ w'.cell? ⟨Bk, off + 2, none⟩ = some (.string h.s) ∧ w'.cell? ⟨Bk, off + 3, none⟩ = some (.slice h.a h.len h.cap) ∧ w'.cell? ⟨Bk, off + 4, none⟩ = some (.int .i64 b.k) ∧ w'.cell? ⟨Bk, off + 4 + 1, none⟩ = some (.int .i64 b.N) ∧ w'.cell? ⟨Bk, off + 4 + 2, none⟩ = some (.string b.s) ∧ w'.cell? ⟨Bk, off + 4 + 3, none⟩ = some (.slice b.a b.len b.cap)) (by kernel_rfl) ?_ (fun hHeld => ?_)
  · (try rw [hD1]); exact kD
  rw [hD1] at hHeld ⊢
  clear hD1
  refine tk 0 rfl hHeld ?_
  refine tk 1 rfl hHeld ?_
  refine tk 2 rfl hHeld ?_
  refine tk 3 rfl hHeld ?_
  refine tk 4 rfl hHeld ?_
  refine tk 5 rfl hHeld ?_
  refine tk 6 rfl hHeld ?_
  refine tk 7 rfl hHeld ?_
  refine wpAnyH_ready (rs := [8, 9]) (by kernel_rfl) (by simp) ?_
  refine rc 8 rfl (fun K hK => ?_) ?_
  · have hHold := hHeld
    clear hHeld
    go_simp
    refine hK.out _ _ ?_ (fun hHeld => ?_)
    · ((try dsimp only); exact (unhide KEEP) _ ka1)
    clear hK K hHold
    try simp only [pu]
    refine rd 9 rfl fun K hK => ?_
    have hHold := hHeld
    clear hHeld
    go_simp
    try rw [hX2]
    refine hK.out _ _ ?_ (fun hHeld => ?_)
    · ((try dsimp only); exact (unhide KEEP) _ ka2)
    clear hK K hHold
    try simp only [pu]
    refine rd 10 rfl fun K hK => ?_
    have hHold := hHeld
    clear hHeld
    go_simp
    try rw [hX3A]
    refine hK.out _ _ ?_ (fun hHeld => ?_)
    · ((try dsimp only); exact (unhide KEEP) _ ka3A)
    clear hK K hHold
    try simp only [pu]
    refine rd 11 rfl fun K hK => ?_
    have hHold := hHeld
    clear hHeld
    go_simp
    try rw [hX4A]
    refine hK.out _ _ ?_ (fun hHeld => ?_)
    · ((try dsimp only); exact (unhide KEEP) _ ka4A)
    clear hK K hHold
    try simp only [pu]
    refine wpAnyH_done (by kernel_rfl) ?_ _
    exact NoPanic.normal (unhide HQA)
  refine rc 9 rfl (fun K hK => ?_) AllReadyH.nil
  have hHold := hHeld
  clear hHeld
  go_simp
  refine hK.out _ _ ?_ (fun hHeld => ?_)
  · ((try dsimp only); exact (unhide KEEP) _ ka1)
  clear hK K hHold
  try simp only [pu]
  refine rd 8 rfl fun K hK => ?_
  have hHold := hHeld
  clear hHeld
  go_simp
  try rw [hX2]
  refine hK.out _ _ ?_ (fun hHeld => ?_)
  · ((try dsimp only); exact (unhide KEEP) _ ka2)
  clear hK K hHold
  try simp only [pu]
  refine rd 10 rfl fun K hK => ?_
  have hHold := hHeld
  clear hHeld
  go_simp
  try rw [hX3B]
  refine hK.out _ _ ?_ (fun hHeld => ?_)
  · ((try dsimp only); exact (unhide KEEP) _ ka3B)
  clear hK K hHold
  try simp only [pu]
  refine rd 11 rfl fun K hK => ?_
  have hHold := hHeld
  clear hHeld
  go_simp
  try rw [hX4B]
  refine hK.out _ _ ?_ (fun hHeld => ?_)
  · ((try dsimp only); exact (unhide KEEP) _ ka4B)
  clear hK K hHold
  try simp only [pu]
  refine wpAnyH_done (by kernel_rfl) ?_ _
  exact NoPanic.normal (unhide HQB)
end Go.Proofs.Ytcdgmjpgmiehcaa

