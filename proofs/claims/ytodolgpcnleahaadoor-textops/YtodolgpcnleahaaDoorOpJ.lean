import Derived.Test.YtodolgpcnleahaaDoorOpI
/- The contract of text.Default. (Written by wip/opjgen.py.) -/
namespace Go.Proofs.YtodolgpcnleahaaDoor
open Go.RowKit Go.Shelf Go.Maps

/-- The operators that are there from the beginning, a row a kind and priority. -/
def names0 : List ByteArray := [⟨#[58, 45]⟩, ⟨#[45, 45, 62]⟩]
def names1 : List ByteArray := [⟨#[61]⟩, ⟨#[92, 61]⟩, ⟨#[61, 61]⟩, ⟨#[92, 61, 61]⟩, ⟨#[64, 60]⟩, ⟨#[64, 62]⟩, ⟨#[64, 61, 60]⟩, ⟨#[64, 62, 61]⟩, ⟨#[61, 46, 46]⟩, ⟨#[105, 115]⟩, ⟨#[61, 58, 61]⟩, ⟨#[61, 92, 61]⟩, ⟨#[60]⟩, ⟨#[62]⟩, ⟨#[61, 60]⟩, ⟨#[62, 61]⟩]
def names2 : List ByteArray := [⟨#[42, 42]⟩]
def names3 : List ByteArray := [⟨#[59]⟩]
def names4 : List ByteArray := [⟨#[45, 62]⟩]
def names5 : List ByteArray := [⟨#[94]⟩]
def names6 : List ByteArray := [⟨#[43]⟩, ⟨#[45]⟩, ⟨#[47, 92]⟩, ⟨#[92, 47]⟩, ⟨#[120, 111, 114]⟩]
def names7 : List ByteArray := [⟨#[42]⟩, ⟨#[47]⟩, ⟨#[47, 47]⟩, ⟨#[109, 111, 100]⟩, ⟨#[114, 101, 109]⟩, ⟨#[100, 105, 118]⟩, ⟨#[60, 60]⟩, ⟨#[62, 62]⟩]
def names8 : List ByteArray := [⟨#[92, 43]⟩]
def names9 : List ByteArray := [⟨#[45]⟩, ⟨#[92]⟩]
def names10 : List ByteArray := [⟨#[58, 45]⟩]
def defOps : List OV := [opsOf 1 1200 names0, opsOf 1 700 names1, opsOf 1 200 names2, opsOf 2 1100 names3, opsOf 2 1050 names4, opsOf 2 200 names5, opsOf 3 500 names6, opsOf 3 400 names7, opsOf 4 900 names8, opsOf 4 200 names9, opsOf 5 1200 names10].flatten
theorem at_names0 (w : World) : namesAt (w.alloc (.cells #[.string ⟨#[58, 45]⟩, .string ⟨#[45, 45, 62]⟩] 9)) w.heap.size names0 := by
  intro j s hj
  match j, hj with
  | 0, hj => simp [names0] at hj; subst hj; simp
  | 1, hj => simp [names0] at hj; subst hj; simp
  | q + 2, hj => simp [names0] at hj
theorem rows_0 (W : World) : Calls Tryd.prog 9 #[.int .i64 1, .int .i64 1200, .slice (some ⟨W.heap.size, 0, none⟩) 2 2] (W.alloc (.cells #[.string ⟨#[58, 45]⟩, .string ⟨#[45, 45, 62]⟩] 9)) fun e W' => ∃ B, e = .returned (.slice (some ⟨B, 0, none⟩) 2 2) ∧ Below W.heap.size W W' ∧ IsO W' (some ⟨B, 0, none⟩) (opsOf 1 1200 names0).length (opsOf 1 1200 names0) :=
  (rows_any 1 1200 names0 W.heap.size 2 (W.alloc (.cells #[.string ⟨#[58, 45]⟩, .string ⟨#[45, 45, 62]⟩] 9)) (by decide) (by decide) (by decide) (by simp) (at_names0 W)).mono fun e W' h => ⟨_, h.1, ((Below.refl _ W).alloc (Nat.le_refl _) _).trans (h.2.1.mono (by simp)), h.2.2⟩
theorem at_names1 (w : World) : namesAt (w.alloc (.cells #[.string ⟨#[61]⟩, .string ⟨#[92, 61]⟩, .string ⟨#[61, 61]⟩, .string ⟨#[92, 61, 61]⟩, .string ⟨#[64, 60]⟩, .string ⟨#[64, 62]⟩, .string ⟨#[64, 61, 60]⟩, .string ⟨#[64, 62, 61]⟩, .string ⟨#[61, 46, 46]⟩, .string ⟨#[105, 115]⟩, .string ⟨#[61, 58, 61]⟩, .string ⟨#[61, 92, 61]⟩, .string ⟨#[60]⟩, .string ⟨#[62]⟩, .string ⟨#[61, 60]⟩, .string ⟨#[62, 61]⟩] 9)) w.heap.size names1 := by
  intro j s hj
  match j, hj with
  | 0, hj => simp [names1] at hj; subst hj; simp
  | 1, hj => simp [names1] at hj; subst hj; simp
  | 2, hj => simp [names1] at hj; subst hj; simp
  | 3, hj => simp [names1] at hj; subst hj; simp
  | 4, hj => simp [names1] at hj; subst hj; simp
  | 5, hj => simp [names1] at hj; subst hj; simp
  | 6, hj => simp [names1] at hj; subst hj; simp
  | 7, hj => simp [names1] at hj; subst hj; simp
  | 8, hj => simp [names1] at hj; subst hj; simp
  | 9, hj => simp [names1] at hj; subst hj; simp
  | 10, hj => simp [names1] at hj; subst hj; simp
  | 11, hj => simp [names1] at hj; subst hj; simp
  | 12, hj => simp [names1] at hj; subst hj; simp
  | 13, hj => simp [names1] at hj; subst hj; simp
  | 14, hj => simp [names1] at hj; subst hj; simp
  | 15, hj => simp [names1] at hj; subst hj; simp
  | q + 16, hj => simp [names1] at hj
theorem rows_1 (W : World) : Calls Tryd.prog 9 #[.int .i64 1, .int .i64 700, .slice (some ⟨W.heap.size, 0, none⟩) 16 16] (W.alloc (.cells #[.string ⟨#[61]⟩, .string ⟨#[92, 61]⟩, .string ⟨#[61, 61]⟩, .string ⟨#[92, 61, 61]⟩, .string ⟨#[64, 60]⟩, .string ⟨#[64, 62]⟩, .string ⟨#[64, 61, 60]⟩, .string ⟨#[64, 62, 61]⟩, .string ⟨#[61, 46, 46]⟩, .string ⟨#[105, 115]⟩, .string ⟨#[61, 58, 61]⟩, .string ⟨#[61, 92, 61]⟩, .string ⟨#[60]⟩, .string ⟨#[62]⟩, .string ⟨#[61, 60]⟩, .string ⟨#[62, 61]⟩] 9)) fun e W' => ∃ B, e = .returned (.slice (some ⟨B, 0, none⟩) 16 16) ∧ Below W.heap.size W W' ∧ IsO W' (some ⟨B, 0, none⟩) (opsOf 1 700 names1).length (opsOf 1 700 names1) :=
  (rows_any 1 700 names1 W.heap.size 16 (W.alloc (.cells #[.string ⟨#[61]⟩, .string ⟨#[92, 61]⟩, .string ⟨#[61, 61]⟩, .string ⟨#[92, 61, 61]⟩, .string ⟨#[64, 60]⟩, .string ⟨#[64, 62]⟩, .string ⟨#[64, 61, 60]⟩, .string ⟨#[64, 62, 61]⟩, .string ⟨#[61, 46, 46]⟩, .string ⟨#[105, 115]⟩, .string ⟨#[61, 58, 61]⟩, .string ⟨#[61, 92, 61]⟩, .string ⟨#[60]⟩, .string ⟨#[62]⟩, .string ⟨#[61, 60]⟩, .string ⟨#[62, 61]⟩] 9)) (by decide) (by decide) (by decide) (by simp) (at_names1 W)).mono fun e W' h => ⟨_, h.1, ((Below.refl _ W).alloc (Nat.le_refl _) _).trans (h.2.1.mono (by simp)), h.2.2⟩
theorem at_names2 (w : World) : namesAt (w.alloc (.cells #[.string ⟨#[42, 42]⟩] 9)) w.heap.size names2 := by
  intro j s hj
  match j, hj with
  | 0, hj => simp [names2] at hj; subst hj; simp
  | q + 1, hj => simp [names2] at hj
theorem rows_2 (W : World) : Calls Tryd.prog 9 #[.int .i64 1, .int .i64 200, .slice (some ⟨W.heap.size, 0, none⟩) 1 1] (W.alloc (.cells #[.string ⟨#[42, 42]⟩] 9)) fun e W' => ∃ B, e = .returned (.slice (some ⟨B, 0, none⟩) 1 1) ∧ Below W.heap.size W W' ∧ IsO W' (some ⟨B, 0, none⟩) (opsOf 1 200 names2).length (opsOf 1 200 names2) :=
  (rows_any 1 200 names2 W.heap.size 1 (W.alloc (.cells #[.string ⟨#[42, 42]⟩] 9)) (by decide) (by decide) (by decide) (by simp) (at_names2 W)).mono fun e W' h => ⟨_, h.1, ((Below.refl _ W).alloc (Nat.le_refl _) _).trans (h.2.1.mono (by simp)), h.2.2⟩
theorem at_names3 (w : World) : namesAt (w.alloc (.cells #[.string ⟨#[59]⟩] 9)) w.heap.size names3 := by
  intro j s hj
  match j, hj with
  | 0, hj => simp [names3] at hj; subst hj; simp
  | q + 1, hj => simp [names3] at hj
theorem rows_3 (W : World) : Calls Tryd.prog 9 #[.int .i64 2, .int .i64 1100, .slice (some ⟨W.heap.size, 0, none⟩) 1 1] (W.alloc (.cells #[.string ⟨#[59]⟩] 9)) fun e W' => ∃ B, e = .returned (.slice (some ⟨B, 0, none⟩) 1 1) ∧ Below W.heap.size W W' ∧ IsO W' (some ⟨B, 0, none⟩) (opsOf 2 1100 names3).length (opsOf 2 1100 names3) :=
  (rows_any 2 1100 names3 W.heap.size 1 (W.alloc (.cells #[.string ⟨#[59]⟩] 9)) (by decide) (by decide) (by decide) (by simp) (at_names3 W)).mono fun e W' h => ⟨_, h.1, ((Below.refl _ W).alloc (Nat.le_refl _) _).trans (h.2.1.mono (by simp)), h.2.2⟩
theorem at_names4 (w : World) : namesAt (w.alloc (.cells #[.string ⟨#[45, 62]⟩] 9)) w.heap.size names4 := by
  intro j s hj
  match j, hj with
  | 0, hj => simp [names4] at hj; subst hj; simp
  | q + 1, hj => simp [names4] at hj
theorem rows_4 (W : World) : Calls Tryd.prog 9 #[.int .i64 2, .int .i64 1050, .slice (some ⟨W.heap.size, 0, none⟩) 1 1] (W.alloc (.cells #[.string ⟨#[45, 62]⟩] 9)) fun e W' => ∃ B, e = .returned (.slice (some ⟨B, 0, none⟩) 1 1) ∧ Below W.heap.size W W' ∧ IsO W' (some ⟨B, 0, none⟩) (opsOf 2 1050 names4).length (opsOf 2 1050 names4) :=
  (rows_any 2 1050 names4 W.heap.size 1 (W.alloc (.cells #[.string ⟨#[45, 62]⟩] 9)) (by decide) (by decide) (by decide) (by simp) (at_names4 W)).mono fun e W' h => ⟨_, h.1, ((Below.refl _ W).alloc (Nat.le_refl _) _).trans (h.2.1.mono (by simp)), h.2.2⟩
theorem at_names5 (w : World) : namesAt (w.alloc (.cells #[.string ⟨#[94]⟩] 9)) w.heap.size names5 := by
  intro j s hj
  match j, hj with
  | 0, hj => simp [names5] at hj; subst hj; simp
  | q + 1, hj => simp [names5] at hj
theorem rows_5 (W : World) : Calls Tryd.prog 9 #[.int .i64 2, .int .i64 200, .slice (some ⟨W.heap.size, 0, none⟩) 1 1] (W.alloc (.cells #[.string ⟨#[94]⟩] 9)) fun e W' => ∃ B, e = .returned (.slice (some ⟨B, 0, none⟩) 1 1) ∧ Below W.heap.size W W' ∧ IsO W' (some ⟨B, 0, none⟩) (opsOf 2 200 names5).length (opsOf 2 200 names5) :=
  (rows_any 2 200 names5 W.heap.size 1 (W.alloc (.cells #[.string ⟨#[94]⟩] 9)) (by decide) (by decide) (by decide) (by simp) (at_names5 W)).mono fun e W' h => ⟨_, h.1, ((Below.refl _ W).alloc (Nat.le_refl _) _).trans (h.2.1.mono (by simp)), h.2.2⟩
theorem at_names6 (w : World) : namesAt (w.alloc (.cells #[.string ⟨#[43]⟩, .string ⟨#[45]⟩, .string ⟨#[47, 92]⟩, .string ⟨#[92, 47]⟩, .string ⟨#[120, 111, 114]⟩] 9)) w.heap.size names6 := by
  intro j s hj
  match j, hj with
  | 0, hj => simp [names6] at hj; subst hj; simp
  | 1, hj => simp [names6] at hj; subst hj; simp
  | 2, hj => simp [names6] at hj; subst hj; simp
  | 3, hj => simp [names6] at hj; subst hj; simp
  | 4, hj => simp [names6] at hj; subst hj; simp
  | q + 5, hj => simp [names6] at hj
theorem rows_6 (W : World) : Calls Tryd.prog 9 #[.int .i64 3, .int .i64 500, .slice (some ⟨W.heap.size, 0, none⟩) 5 5] (W.alloc (.cells #[.string ⟨#[43]⟩, .string ⟨#[45]⟩, .string ⟨#[47, 92]⟩, .string ⟨#[92, 47]⟩, .string ⟨#[120, 111, 114]⟩] 9)) fun e W' => ∃ B, e = .returned (.slice (some ⟨B, 0, none⟩) 5 5) ∧ Below W.heap.size W W' ∧ IsO W' (some ⟨B, 0, none⟩) (opsOf 3 500 names6).length (opsOf 3 500 names6) :=
  (rows_any 3 500 names6 W.heap.size 5 (W.alloc (.cells #[.string ⟨#[43]⟩, .string ⟨#[45]⟩, .string ⟨#[47, 92]⟩, .string ⟨#[92, 47]⟩, .string ⟨#[120, 111, 114]⟩] 9)) (by decide) (by decide) (by decide) (by simp) (at_names6 W)).mono fun e W' h => ⟨_, h.1, ((Below.refl _ W).alloc (Nat.le_refl _) _).trans (h.2.1.mono (by simp)), h.2.2⟩
theorem at_names7 (w : World) : namesAt (w.alloc (.cells #[.string ⟨#[42]⟩, .string ⟨#[47]⟩, .string ⟨#[47, 47]⟩, .string ⟨#[109, 111, 100]⟩, .string ⟨#[114, 101, 109]⟩, .string ⟨#[100, 105, 118]⟩, .string ⟨#[60, 60]⟩, .string ⟨#[62, 62]⟩] 9)) w.heap.size names7 := by
  intro j s hj
  match j, hj with
  | 0, hj => simp [names7] at hj; subst hj; simp
  | 1, hj => simp [names7] at hj; subst hj; simp
  | 2, hj => simp [names7] at hj; subst hj; simp
  | 3, hj => simp [names7] at hj; subst hj; simp
  | 4, hj => simp [names7] at hj; subst hj; simp
  | 5, hj => simp [names7] at hj; subst hj; simp
  | 6, hj => simp [names7] at hj; subst hj; simp
  | 7, hj => simp [names7] at hj; subst hj; simp
  | q + 8, hj => simp [names7] at hj
theorem rows_7 (W : World) : Calls Tryd.prog 9 #[.int .i64 3, .int .i64 400, .slice (some ⟨W.heap.size, 0, none⟩) 8 8] (W.alloc (.cells #[.string ⟨#[42]⟩, .string ⟨#[47]⟩, .string ⟨#[47, 47]⟩, .string ⟨#[109, 111, 100]⟩, .string ⟨#[114, 101, 109]⟩, .string ⟨#[100, 105, 118]⟩, .string ⟨#[60, 60]⟩, .string ⟨#[62, 62]⟩] 9)) fun e W' => ∃ B, e = .returned (.slice (some ⟨B, 0, none⟩) 8 8) ∧ Below W.heap.size W W' ∧ IsO W' (some ⟨B, 0, none⟩) (opsOf 3 400 names7).length (opsOf 3 400 names7) :=
  (rows_any 3 400 names7 W.heap.size 8 (W.alloc (.cells #[.string ⟨#[42]⟩, .string ⟨#[47]⟩, .string ⟨#[47, 47]⟩, .string ⟨#[109, 111, 100]⟩, .string ⟨#[114, 101, 109]⟩, .string ⟨#[100, 105, 118]⟩, .string ⟨#[60, 60]⟩, .string ⟨#[62, 62]⟩] 9)) (by decide) (by decide) (by decide) (by simp) (at_names7 W)).mono fun e W' h => ⟨_, h.1, ((Below.refl _ W).alloc (Nat.le_refl _) _).trans (h.2.1.mono (by simp)), h.2.2⟩
theorem at_names8 (w : World) : namesAt (w.alloc (.cells #[.string ⟨#[92, 43]⟩] 9)) w.heap.size names8 := by
  intro j s hj
  match j, hj with
  | 0, hj => simp [names8] at hj; subst hj; simp
  | q + 1, hj => simp [names8] at hj
theorem rows_8 (W : World) : Calls Tryd.prog 9 #[.int .i64 4, .int .i64 900, .slice (some ⟨W.heap.size, 0, none⟩) 1 1] (W.alloc (.cells #[.string ⟨#[92, 43]⟩] 9)) fun e W' => ∃ B, e = .returned (.slice (some ⟨B, 0, none⟩) 1 1) ∧ Below W.heap.size W W' ∧ IsO W' (some ⟨B, 0, none⟩) (opsOf 4 900 names8).length (opsOf 4 900 names8) :=
  (rows_any 4 900 names8 W.heap.size 1 (W.alloc (.cells #[.string ⟨#[92, 43]⟩] 9)) (by decide) (by decide) (by decide) (by simp) (at_names8 W)).mono fun e W' h => ⟨_, h.1, ((Below.refl _ W).alloc (Nat.le_refl _) _).trans (h.2.1.mono (by simp)), h.2.2⟩
theorem at_names9 (w : World) : namesAt (w.alloc (.cells #[.string ⟨#[45]⟩, .string ⟨#[92]⟩] 9)) w.heap.size names9 := by
  intro j s hj
  match j, hj with
  | 0, hj => simp [names9] at hj; subst hj; simp
  | 1, hj => simp [names9] at hj; subst hj; simp
  | q + 2, hj => simp [names9] at hj
theorem rows_9 (W : World) : Calls Tryd.prog 9 #[.int .i64 4, .int .i64 200, .slice (some ⟨W.heap.size, 0, none⟩) 2 2] (W.alloc (.cells #[.string ⟨#[45]⟩, .string ⟨#[92]⟩] 9)) fun e W' => ∃ B, e = .returned (.slice (some ⟨B, 0, none⟩) 2 2) ∧ Below W.heap.size W W' ∧ IsO W' (some ⟨B, 0, none⟩) (opsOf 4 200 names9).length (opsOf 4 200 names9) :=
  (rows_any 4 200 names9 W.heap.size 2 (W.alloc (.cells #[.string ⟨#[45]⟩, .string ⟨#[92]⟩] 9)) (by decide) (by decide) (by decide) (by simp) (at_names9 W)).mono fun e W' h => ⟨_, h.1, ((Below.refl _ W).alloc (Nat.le_refl _) _).trans (h.2.1.mono (by simp)), h.2.2⟩
theorem at_names10 (w : World) : namesAt (w.alloc (.cells #[.string ⟨#[58, 45]⟩] 9)) w.heap.size names10 := by
  intro j s hj
  match j, hj with
  | 0, hj => simp [names10] at hj; subst hj; simp
  | q + 1, hj => simp [names10] at hj
theorem rows_10 (W : World) : Calls Tryd.prog 9 #[.int .i64 5, .int .i64 1200, .slice (some ⟨W.heap.size, 0, none⟩) 1 1] (W.alloc (.cells #[.string ⟨#[58, 45]⟩] 9)) fun e W' => ∃ B, e = .returned (.slice (some ⟨B, 0, none⟩) 1 1) ∧ Below W.heap.size W W' ∧ IsO W' (some ⟨B, 0, none⟩) (opsOf 5 1200 names10).length (opsOf 5 1200 names10) :=
  (rows_any 5 1200 names10 W.heap.size 1 (W.alloc (.cells #[.string ⟨#[58, 45]⟩] 9)) (by decide) (by decide) (by decide) (by simp) (at_names10 W)).mono fun e W' h => ⟨_, h.1, ((Below.refl _ W).alloc (Nat.le_refl _) _).trans (h.2.1.mono (by simp)), h.2.2⟩

theorem ownO_mono {base base' : Nat} {W : World} {v : Value} {l : List OV} (h : OwnO base W v l) (hb : base' ≤ base) : OwnO base' W v l := by
  obtain ⟨h1, h2⟩ := h
  refine ⟨h1, ?_⟩
  rcases h2 with h2 | ⟨g, cap, cur, k1, k2, k3⟩
  · exact .inl h2
  · exact .inr ⟨g, cap, cur, k1, Nat.le_trans hb k2, k3⟩

set_option maxRecDepth 100000 in
set_option maxHeartbeats 4000000 in
theorem default_any (w : World) : Calls Tryd.prog 4 #[] w fun e W' => ∃ v, e = .returned v ∧ Below w.heap.size w W' ∧ OwnO w.heap.size W' v defOps := by
  go_enter Tryd.func4, Tryd.ntmps4
  go_wp2_with fail
  refine (rows_0 w).mono ?_
  rintro e W1 ⟨B0, rfl, b, o0⟩
  have HB := hd b
  have HO0 := hd o0
  clear b o0
  go_wp2_with fail
  refine (rows_1 W1).mono ?_
  rintro e W2 ⟨B1, rfl, b, o1⟩
  replace HB := hd ((uh HB).trans (b.mono (uh HB).size))
  replace HO0 := hd ((uh HO0).below b)
  have HO1 := hd o1
  clear b o1
  go_wp2_with fail
  refine (rows_2 W2).mono ?_
  rintro e W3 ⟨B2, rfl, b, o2⟩
  replace HB := hd ((uh HB).trans (b.mono (uh HB).size))
  replace HO0 := hd ((uh HO0).below b)
  replace HO1 := hd ((uh HO1).below b)
  have HO2 := hd o2
  clear b o2
  go_wp2_with fail
  refine (rows_3 W3).mono ?_
  rintro e W4 ⟨B3, rfl, b, o3⟩
  replace HB := hd ((uh HB).trans (b.mono (uh HB).size))
  replace HO0 := hd ((uh HO0).below b)
  replace HO1 := hd ((uh HO1).below b)
  replace HO2 := hd ((uh HO2).below b)
  have HO3 := hd o3
  clear b o3
  go_wp2_with fail
  refine (rows_4 W4).mono ?_
  rintro e W5 ⟨B4, rfl, b, o4⟩
  replace HB := hd ((uh HB).trans (b.mono (uh HB).size))
  replace HO0 := hd ((uh HO0).below b)
  replace HO1 := hd ((uh HO1).below b)
  replace HO2 := hd ((uh HO2).below b)
  replace HO3 := hd ((uh HO3).below b)
  have HO4 := hd o4
  clear b o4
  go_wp2_with fail
  refine (rows_5 W5).mono ?_
  rintro e W6 ⟨B5, rfl, b, o5⟩
  replace HB := hd ((uh HB).trans (b.mono (uh HB).size))
  replace HO0 := hd ((uh HO0).below b)
  replace HO1 := hd ((uh HO1).below b)
  replace HO2 := hd ((uh HO2).below b)
  replace HO3 := hd ((uh HO3).below b)
  replace HO4 := hd ((uh HO4).below b)
  have HO5 := hd o5
  clear b o5
  go_wp2_with fail
  refine (rows_6 W6).mono ?_
  rintro e W7 ⟨B6, rfl, b, o6⟩
  replace HB := hd ((uh HB).trans (b.mono (uh HB).size))
  replace HO0 := hd ((uh HO0).below b)
  replace HO1 := hd ((uh HO1).below b)
  replace HO2 := hd ((uh HO2).below b)
  replace HO3 := hd ((uh HO3).below b)
  replace HO4 := hd ((uh HO4).below b)
  replace HO5 := hd ((uh HO5).below b)
  have HO6 := hd o6
  clear b o6
  go_wp2_with fail
  refine (rows_7 W7).mono ?_
  rintro e W8 ⟨B7, rfl, b, o7⟩
  replace HB := hd ((uh HB).trans (b.mono (uh HB).size))
  replace HO0 := hd ((uh HO0).below b)
  replace HO1 := hd ((uh HO1).below b)
  replace HO2 := hd ((uh HO2).below b)
  replace HO3 := hd ((uh HO3).below b)
  replace HO4 := hd ((uh HO4).below b)
  replace HO5 := hd ((uh HO5).below b)
  replace HO6 := hd ((uh HO6).below b)
  have HO7 := hd o7
  clear b o7
  go_wp2_with fail
  refine (rows_8 W8).mono ?_
  rintro e W9 ⟨B8, rfl, b, o8⟩
  replace HB := hd ((uh HB).trans (b.mono (uh HB).size))
  replace HO0 := hd ((uh HO0).below b)
  replace HO1 := hd ((uh HO1).below b)
  replace HO2 := hd ((uh HO2).below b)
  replace HO3 := hd ((uh HO3).below b)
  replace HO4 := hd ((uh HO4).below b)
  replace HO5 := hd ((uh HO5).below b)
  replace HO6 := hd ((uh HO6).below b)
  replace HO7 := hd ((uh HO7).below b)
  have HO8 := hd o8
  clear b o8
  go_wp2_with fail
  refine (rows_9 W9).mono ?_
  rintro e W10 ⟨B9, rfl, b, o9⟩
  replace HB := hd ((uh HB).trans (b.mono (uh HB).size))
  replace HO0 := hd ((uh HO0).below b)
  replace HO1 := hd ((uh HO1).below b)
  replace HO2 := hd ((uh HO2).below b)
  replace HO3 := hd ((uh HO3).below b)
  replace HO4 := hd ((uh HO4).below b)
  replace HO5 := hd ((uh HO5).below b)
  replace HO6 := hd ((uh HO6).below b)
  replace HO7 := hd ((uh HO7).below b)
  replace HO8 := hd ((uh HO8).below b)
  have HO9 := hd o9
  clear b o9
  go_wp2_with fail
  refine (rows_10 W10).mono ?_
  rintro e W11 ⟨B10, rfl, b, o10⟩
  replace HB := hd ((uh HB).trans (b.mono (uh HB).size))
  replace HO0 := hd ((uh HO0).below b)
  replace HO1 := hd ((uh HO1).below b)
  replace HO2 := hd ((uh HO2).below b)
  replace HO3 := hd ((uh HO3).below b)
  replace HO4 := hd ((uh HO4).below b)
  replace HO5 := hd ((uh HO5).below b)
  replace HO6 := hd ((uh HO6).below b)
  replace HO7 := hd ((uh HO7).below b)
  replace HO8 := hd ((uh HO8).below b)
  replace HO9 := hd ((uh HO9).below b)
  have HO10 := hd o10
  clear b o10
  go_wp2_with fail
  have hbA : Below W11.heap.size W11 (W11.alloc (.cells #[.slice (some ⟨B0, 0, none⟩) 2 2, .slice (some ⟨B1, 0, none⟩) 16 16, .slice (some ⟨B2, 0, none⟩) 1 1, .slice (some ⟨B3, 0, none⟩) 1 1, .slice (some ⟨B4, 0, none⟩) 1 1, .slice (some ⟨B5, 0, none⟩) 1 1, .slice (some ⟨B6, 0, none⟩) 5 5, .slice (some ⟨B7, 0, none⟩) 8 8, .slice (some ⟨B8, 0, none⟩) 1 1, .slice (some ⟨B9, 0, none⟩) 2 2, .slice (some ⟨B10, 0, none⟩) 1 1] 22)) := (Below.refl _ W11).alloc (Nat.le_refl _) _
  have hps : partsAt (W11.alloc (.cells #[.slice (some ⟨B0, 0, none⟩) 2 2, .slice (some ⟨B1, 0, none⟩) 16 16, .slice (some ⟨B2, 0, none⟩) 1 1, .slice (some ⟨B3, 0, none⟩) 1 1, .slice (some ⟨B4, 0, none⟩) 1 1, .slice (some ⟨B5, 0, none⟩) 1 1, .slice (some ⟨B6, 0, none⟩) 5 5, .slice (some ⟨B7, 0, none⟩) 8 8, .slice (some ⟨B8, 0, none⟩) 1 1, .slice (some ⟨B9, 0, none⟩) 2 2, .slice (some ⟨B10, 0, none⟩) 1 1] 22)) W11.heap.size [(B0, opsOf 1 1200 names0), (B1, opsOf 1 700 names1), (B2, opsOf 1 200 names2), (B3, opsOf 2 1100 names3), (B4, opsOf 2 1050 names4), (B5, opsOf 2 200 names5), (B6, opsOf 3 500 names6), (B7, opsOf 3 400 names7), (B8, opsOf 4 900 names8), (B9, opsOf 4 200 names9), (B10, opsOf 5 1200 names10)] := by
    intro j p hj
    match j, hj with
    | 0, hj => simp at hj; subst hj; exact ⟨by simp [opsOf, names0], (uh HO0).below hbA⟩
    | 1, hj => simp at hj; subst hj; exact ⟨by simp [opsOf, names1], (uh HO1).below hbA⟩
    | 2, hj => simp at hj; subst hj; exact ⟨by simp [opsOf, names2], (uh HO2).below hbA⟩
    | 3, hj => simp at hj; subst hj; exact ⟨by simp [opsOf, names3], (uh HO3).below hbA⟩
    | 4, hj => simp at hj; subst hj; exact ⟨by simp [opsOf, names4], (uh HO4).below hbA⟩
    | 5, hj => simp at hj; subst hj; exact ⟨by simp [opsOf, names5], (uh HO5).below hbA⟩
    | 6, hj => simp at hj; subst hj; exact ⟨by simp [opsOf, names6], (uh HO6).below hbA⟩
    | 7, hj => simp at hj; subst hj; exact ⟨by simp [opsOf, names7], (uh HO7).below hbA⟩
    | 8, hj => simp at hj; subst hj; exact ⟨by simp [opsOf, names8], (uh HO8).below hbA⟩
    | 9, hj => simp at hj; subst hj; exact ⟨by simp [opsOf, names9], (uh HO9).below hbA⟩
    | 10, hj => simp at hj; subst hj; exact ⟨by simp [opsOf, names10], (uh HO10).below hbA⟩
    | q + 11, hj => simp at hj
  refine (concat_any _ W11.heap.size 11 _ (by simp) (by simp) (by decide) (by simp) hps (by simp [lens, opsOf, names0, names1, names2, names3, names4, names5, names6, names7, names8, names9, names10]) (by simp [lens, opsOf, names0, names1, names2, names3, names4, names5, names6, names7, names8, names9, names10])).mono ?_
  rintro e W12 ⟨v, rfl, b, o⟩
  have hfin : Below w.heap.size w W12 ∧ OwnO w.heap.size W12 v defOps := ⟨((uh HB).trans (hbA.mono (uh HB).size)).trans (b.mono (by have := (uh HB).size; simp; omega)), ownO_mono o (by have := (uh HB).size; simp; omega)⟩
  have HF := hd hfin
  clear hfin b o hps hbA
  go_wp2_with fail
  go_ret
  exact ⟨_, rfl, uh HF⟩
end Go.Proofs.YtodolgpcnleahaaDoor

