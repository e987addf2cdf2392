import Derived.Test.YtodolgpcnleahaaDoorOpJ
import Derived.Test.YtodolgpcnleahaaDoorOpG
/- The contract of hornref.Default. (Written by wip/opkgen.py.) -/
namespace Go.Proofs.YtodolgpcnleahaaDoor
open Go.RowKit Go.Shelf Go.Maps

/-- A row of the table: kind, priority, the names in one text, and apart. -/
structure DR where
  kind : Int
  prio : Int
  text : ByteArray
  names : List ByteArray
def defR : List DR := [⟨1, 1200, ⟨#[58, 45, 32, 45, 45, 62]⟩, names0⟩, ⟨1, 700, ⟨#[61, 32, 92, 61, 32, 61, 61, 32, 92, 61, 61, 32, 64, 60, 32, 64, 62, 32, 64, 61, 60, 32, 64, 62, 61, 32, 61, 46, 46, 32, 105, 115, 32, 61, 58, 61, 32, 61, 92, 61, 32, 60, 32, 62, 32, 61, 60, 32, 62, 61]⟩, names1⟩, ⟨1, 200, ⟨#[42, 42]⟩, names2⟩, ⟨2, 1100, ⟨#[59]⟩, names3⟩, ⟨2, 1050, ⟨#[45, 62]⟩, names4⟩, ⟨2, 200, ⟨#[94]⟩, names5⟩, ⟨3, 500, ⟨#[43, 32, 45, 32, 47, 92, 32, 92, 47, 32, 120, 111, 114]⟩, names6⟩, ⟨3, 400, ⟨#[42, 32, 47, 32, 47, 47, 32, 109, 111, 100, 32, 114, 101, 109, 32, 100, 105, 118, 32, 60, 60, 32, 62, 62]⟩, names7⟩, ⟨4, 900, ⟨#[92, 43]⟩, names8⟩, ⟨4, 200, ⟨#[45, 32, 92]⟩, names9⟩, ⟨5, 1200, ⟨#[58, 45]⟩, names10⟩]
structure DR.Fine (r : DR) : Prop where
  split : Lib.splitB ⟨#[32]⟩ 0 (Lib.countB r.text ⟨#[32]⟩) r.text = r.names
  count : Lib.countB r.text ⟨#[32]⟩ + 1 = r.names.length
  size : r.text.size < 4294967281
  len : r.names.length ≤ 16
theorem defR_fine : ∀ r ∈ defR, r.Fine := by
  intro r hr
  simp only [defR, List.mem_cons, List.not_mem_nil, or_false] at hr
  rcases hr with rfl | rfl | rfl | rfl | rfl | rfl | rfl | rfl | rfl | rfl | rfl
  · exact ⟨by kernel_rfl, by kernel_rfl, by decide, by decide⟩
  · exact ⟨by kernel_rfl, by kernel_rfl, by decide, by decide⟩
  · exact ⟨by kernel_rfl, by kernel_rfl, by decide, by decide⟩
  · exact ⟨by kernel_rfl, by kernel_rfl, by decide, by decide⟩
  · exact ⟨by kernel_rfl, by kernel_rfl, by decide, by decide⟩
  · exact ⟨by kernel_rfl, by kernel_rfl, by decide, by decide⟩
  · exact ⟨by kernel_rfl, by kernel_rfl, by decide, by decide⟩
  · exact ⟨by kernel_rfl, by kernel_rfl, by decide, by decide⟩
  · exact ⟨by kernel_rfl, by kernel_rfl, by decide, by decide⟩
  · exact ⟨by kernel_rfl, by kernel_rfl, by decide, by decide⟩
  · exact ⟨by kernel_rfl, by kernel_rfl, by decide, by decide⟩
def opsR (l : List DR) : List OV := l.flatMap fun r => opsOf r.kind r.prio r.names
theorem opsR_def : opsR defR = defOps := rfl
theorem opsR_len (j : Nat) : (opsR (defR.take j)).length ≤ 39 := by
  have h : (opsR defR).length = 39 := by decide
  have h2 : opsR defR = opsR (defR.take j) ++ opsR (defR.drop j) := by
    unfold opsR
    rw [← List.flatMap_append, List.take_append_drop]
  rw [h2, List.length_append] at h
  omega
/-- A block that holds no operators is as it was. -/
def Oth (W W' : World) : Prop := ∀ (k : Nat) c T fz, W.heap[k]? = some (Obj.cells c T fz) → T ≠ 27 → W'.heap[k]? = some (Obj.cells c T fz)
theorem Oth.trans {A B C : World} (h : Oth A B) (k : Oth B C) : Oth A C := fun i c T fz h1 h2 => k i c T fz (h i c T fz h1 h2) h2
theorem Oth.of_below {A B : World} (h : Below A.heap.size A B) : Oth A B := fun k _ _ _ h1 _ => (h.block k (Array.getElem?_eq_some_iff.1 h1).1).trans h1
theorem Oth.of_grown {base : Nat} {A B : World} {v : Value} {l : List OV} (ho : OwnO base A v l) (hg : A.grownBy B v.ownBlock) : Oth A B := fun k c T fz h1 h2 => by
  refine (hg.block k (Array.getElem?_eq_some_iff.1 h1).1 fun e => ?_).trans h1
  obtain ⟨_, h3⟩ := ho
  rcases h3 with ⟨rfl, _⟩ | ⟨g, cap, cur, rfl, _, hc, _⟩
  · simp [Value.ownBlock] at e
  · simp [Value.ownBlock] at e
    subst e
    rw [hc] at h1
    simp at h1
    exact h2 h1.2.1.symm
theorem oneRow (W : World) (x : OV) : ∀ j u, ([x].flatMap oRow)[j]? = some u → (W.alloc (.cells #[.string x.name, .int .i64 x.prio, .int .i64 x.type] 27)).cell? ((⟨W.heap.size, 0, none⟩ : Addr).add j) = some u := by
  intro j u hj
  rw [addrAdd, Nat.zero_add]
  match j, hj with
  | 0, hj => simp [oRow] at hj; subst hj; simp
  | 1, hj => simp [oRow] at hj; subst hj; simp
  | 2, hj => simp [oRow] at hj; subst hj; simp
  | q + 3, hj => simp [oRow] at hj
theorem rowsR (j : Nat) (r : DR) (hr : defR[j]? = some r) : (#[.int .i64 1, .int .i64 1200, .string ⟨#[58, 45, 32, 45, 45, 62]⟩, .int .i64 1, .int .i64 700, .string ⟨#[61, 32, 92, 61, 32, 61, 61, 32, 92, 61, 61, 32, 64, 60, 32, 64, 62, 32, 64, 61, 60, 32, 64, 62, 61, 32, 61, 46, 46, 32, 105, 115, 32, 61, 58, 61, 32, 61, 92, 61, 32, 60, 32, 62, 32, 61, 60, 32, 62, 61]⟩, .int .i64 1, .int .i64 200, .string ⟨#[42, 42]⟩, .int .i64 2, .int .i64 1100, .string ⟨#[59]⟩, .int .i64 2, .int .i64 1050, .string ⟨#[45, 62]⟩, .int .i64 2, .int .i64 200, .string ⟨#[94]⟩, .int .i64 3, .int .i64 500, .string ⟨#[43, 32, 45, 32, 47, 92, 32, 92, 47, 32, 120, 111, 114]⟩, .int .i64 3, .int .i64 400, .string ⟨#[42, 32, 47, 32, 47, 47, 32, 109, 111, 100, 32, 114, 101, 109, 32, 100, 105, 118, 32, 60, 60, 32, 62, 62]⟩, .int .i64 4, .int .i64 900, .string ⟨#[92, 43]⟩, .int .i64 4, .int .i64 200, .string ⟨#[45, 32, 92]⟩, .int .i64 5, .int .i64 1200, .string ⟨#[58, 45]⟩] : Array Value)[j * 3]? = some (.int .i64 r.kind) ∧ (#[.int .i64 1, .int .i64 1200, .string ⟨#[58, 45, 32, 45, 45, 62]⟩, .int .i64 1, .int .i64 700, .string ⟨#[61, 32, 92, 61, 32, 61, 61, 32, 92, 61, 61, 32, 64, 60, 32, 64, 62, 32, 64, 61, 60, 32, 64, 62, 61, 32, 61, 46, 46, 32, 105, 115, 32, 61, 58, 61, 32, 61, 92, 61, 32, 60, 32, 62, 32, 61, 60, 32, 62, 61]⟩, .int .i64 1, .int .i64 200, .string ⟨#[42, 42]⟩, .int .i64 2, .int .i64 1100, .string ⟨#[59]⟩, .int .i64 2, .int .i64 1050, .string ⟨#[45, 62]⟩, .int .i64 2, .int .i64 200, .string ⟨#[94]⟩, .int .i64 3, .int .i64 500, .string ⟨#[43, 32, 45, 32, 47, 92, 32, 92, 47, 32, 120, 111, 114]⟩, .int .i64 3, .int .i64 400, .string ⟨#[42, 32, 47, 32, 47, 47, 32, 109, 111, 100, 32, 114, 101, 109, 32, 100, 105, 118, 32, 60, 60, 32, 62, 62]⟩, .int .i64 4, .int .i64 900, .string ⟨#[92, 43]⟩, .int .i64 4, .int .i64 200, .string ⟨#[45, 32, 92]⟩, .int .i64 5, .int .i64 1200, .string ⟨#[58, 45]⟩] : Array Value)[j * 3 + 1]? = some (.int .i64 r.prio) ∧ (#[.int .i64 1, .int .i64 1200, .string ⟨#[58, 45, 32, 45, 45, 62]⟩, .int .i64 1, .int .i64 700, .string ⟨#[61, 32, 92, 61, 32, 61, 61, 32, 92, 61, 61, 32, 64, 60, 32, 64, 62, 32, 64, 61, 60, 32, 64, 62, 61, 32, 61, 46, 46, 32, 105, 115, 32, 61, 58, 61, 32, 61, 92, 61, 32, 60, 32, 62, 32, 61, 60, 32, 62, 61]⟩, .int .i64 1, .int .i64 200, .string ⟨#[42, 42]⟩, .int .i64 2, .int .i64 1100, .string ⟨#[59]⟩, .int .i64 2, .int .i64 1050, .string ⟨#[45, 62]⟩, .int .i64 2, .int .i64 200, .string ⟨#[94]⟩, .int .i64 3, .int .i64 500, .string ⟨#[43, 32, 45, 32, 47, 92, 32, 92, 47, 32, 120, 111, 114]⟩, .int .i64 3, .int .i64 400, .string ⟨#[42, 32, 47, 32, 47, 47, 32, 109, 111, 100, 32, 114, 101, 109, 32, 100, 105, 118, 32, 60, 60, 32, 62, 62]⟩, .int .i64 4, .int .i64 900, .string ⟨#[92, 43]⟩, .int .i64 4, .int .i64 200, .string ⟨#[45, 32, 92]⟩, .int .i64 5, .int .i64 1200, .string ⟨#[58, 45]⟩] : Array Value)[j * 3 + 2]? = some (.string r.text) := by
  match j, hr with
  | 0, hr => simp [defR] at hr; subst hr; exact ⟨rfl, rfl, rfl⟩
  | 1, hr => simp [defR] at hr; subst hr; exact ⟨rfl, rfl, rfl⟩
  | 2, hr => simp [defR] at hr; subst hr; exact ⟨rfl, rfl, rfl⟩
  | 3, hr => simp [defR] at hr; subst hr; exact ⟨rfl, rfl, rfl⟩
  | 4, hr => simp [defR] at hr; subst hr; exact ⟨rfl, rfl, rfl⟩
  | 5, hr => simp [defR] at hr; subst hr; exact ⟨rfl, rfl, rfl⟩
  | 6, hr => simp [defR] at hr; subst hr; exact ⟨rfl, rfl, rfl⟩
  | 7, hr => simp [defR] at hr; subst hr; exact ⟨rfl, rfl, rfl⟩
  | 8, hr => simp [defR] at hr; subst hr; exact ⟨rfl, rfl, rfl⟩
  | 9, hr => simp [defR] at hr; subst hr; exact ⟨rfl, rfl, rfl⟩
  | 10, hr => simp [defR] at hr; subst hr; exact ⟨rfl, rfl, rfl⟩
  | q + 11, hr => simp [defR] at hr

set_option maxRecDepth 100000 in
set_option maxHeartbeats 4000000 in
theorem rdefault_any (m : Int) (w : World) (hm : w.cell? ⟨splitLay_ren.g 1, 0, none⟩ = some (.int .i64 m)) (hm0 : splitLay_ren.g 1 < w.heap.size) : Calls Tryd.prog 5 #[] w fun e W' => ∃ v, e = .returned v ∧ Below w.heap.size w W' ∧ OwnO w.heap.size W' v defOps := by
  obtain ⟨i0, hi, hz0, hz1, hz2⟩ := info_parts Tryd.infoOp
  have HM := hd hm
  have HM0 := hd hm0
  have HI := hd hi
  have HZ0 := hd hz0
  have HZ1 := hd hz1
  have HZ2 := hd hz2
  clear hm hm0 hi hz0 hz1 hz2
  go_enter Tryd.func5, Tryd.ntmps5
  go_wp2_with fail
  have hB1 : Below w.heap.size w (w.alloc (.cells #[.int .i64 1, .int .i64 1200, .string ⟨#[58, 45, 32, 45, 45, 62]⟩, .int .i64 1, .int .i64 700, .string ⟨#[61, 32, 92, 61, 32, 61, 61, 32, 92, 61, 61, 32, 64, 60, 32, 64, 62, 32, 64, 61, 60, 32, 64, 62, 61, 32, 61, 46, 46, 32, 105, 115, 32, 61, 58, 61, 32, 61, 92, 61, 32, 60, 32, 62, 32, 61, 60, 32, 62, 61]⟩, .int .i64 1, .int .i64 200, .string ⟨#[42, 42]⟩, .int .i64 2, .int .i64 1100, .string ⟨#[59]⟩, .int .i64 2, .int .i64 1050, .string ⟨#[45, 62]⟩, .int .i64 2, .int .i64 200, .string ⟨#[94]⟩, .int .i64 3, .int .i64 500, .string ⟨#[43, 32, 45, 32, 47, 92, 32, 92, 47, 32, 120, 111, 114]⟩, .int .i64 3, .int .i64 400, .string ⟨#[42, 32, 47, 32, 47, 47, 32, 109, 111, 100, 32, 114, 101, 109, 32, 100, 105, 118, 32, 60, 60, 32, 62, 62]⟩, .int .i64 4, .int .i64 900, .string ⟨#[92, 43]⟩, .int .i64 4, .int .i64 200, .string ⟨#[45, 32, 92]⟩, .int .i64 5, .int .i64 1200, .string ⟨#[58, 45]⟩] 31)) := (Below.refl _ w).alloc (Nat.le_refl _) _
  have hH1 : (w.alloc (.cells #[.int .i64 1, .int .i64 1200, .string ⟨#[58, 45, 32, 45, 45, 62]⟩, .int .i64 1, .int .i64 700, .string ⟨#[61, 32, 92, 61, 32, 61, 61, 32, 92, 61, 61, 32, 64, 60, 32, 64, 62, 32, 64, 61, 60, 32, 64, 62, 61, 32, 61, 46, 46, 32, 105, 115, 32, 61, 58, 61, 32, 61, 92, 61, 32, 60, 32, 62, 32, 61, 60, 32, 62, 61]⟩, .int .i64 1, .int .i64 200, .string ⟨#[42, 42]⟩, .int .i64 2, .int .i64 1100, .string ⟨#[59]⟩, .int .i64 2, .int .i64 1050, .string ⟨#[45, 62]⟩, .int .i64 2, .int .i64 200, .string ⟨#[94]⟩, .int .i64 3, .int .i64 500, .string ⟨#[43, 32, 45, 32, 47, 92, 32, 92, 47, 32, 120, 111, 114]⟩, .int .i64 3, .int .i64 400, .string ⟨#[42, 32, 47, 32, 47, 47, 32, 109, 111, 100, 32, 114, 101, 109, 32, 100, 105, 118, 32, 60, 60, 32, 62, 62]⟩, .int .i64 4, .int .i64 900, .string ⟨#[92, 43]⟩, .int .i64 4, .int .i64 200, .string ⟨#[45, 32, 92]⟩, .int .i64 5, .int .i64 1200, .string ⟨#[58, 45]⟩] 31)).heap[w.heap.size]? = some (.cells #[.int .i64 1, .int .i64 1200, .string ⟨#[58, 45, 32, 45, 45, 62]⟩, .int .i64 1, .int .i64 700, .string ⟨#[61, 32, 92, 61, 32, 61, 61, 32, 92, 61, 61, 32, 64, 60, 32, 64, 62, 32, 64, 61, 60, 32, 64, 62, 61, 32, 61, 46, 46, 32, 105, 115, 32, 61, 58, 61, 32, 61, 92, 61, 32, 60, 32, 62, 32, 61, 60, 32, 62, 61]⟩, .int .i64 1, .int .i64 200, .string ⟨#[42, 42]⟩, .int .i64 2, .int .i64 1100, .string ⟨#[59]⟩, .int .i64 2, .int .i64 1050, .string ⟨#[45, 62]⟩, .int .i64 2, .int .i64 200, .string ⟨#[94]⟩, .int .i64 3, .int .i64 500, .string ⟨#[43, 32, 45, 32, 47, 92, 32, 92, 47, 32, 120, 111, 114]⟩, .int .i64 3, .int .i64 400, .string ⟨#[42, 32, 47, 32, 47, 47, 32, 109, 111, 100, 32, 114, 101, 109, 32, 100, 105, 118, 32, 60, 60, 32, 62, 62]⟩, .int .i64 4, .int .i64 900, .string ⟨#[92, 43]⟩, .int .i64 4, .int .i64 200, .string ⟨#[45, 32, 92]⟩, .int .i64 5, .int .i64 1200, .string ⟨#[58, 45]⟩] 31 (0, 0)) := heap_alloc_new w _
  generalize hW1 : w.alloc (.cells #[.int .i64 1, .int .i64 1200, .string ⟨#[58, 45, 32, 45, 45, 62]⟩, .int .i64 1, .int .i64 700, .string ⟨#[61, 32, 92, 61, 32, 61, 61, 32, 92, 61, 61, 32, 64, 60, 32, 64, 62, 32, 64, 61, 60, 32, 64, 62, 61, 32, 61, 46, 46, 32, 105, 115, 32, 61, 58, 61, 32, 61, 92, 61, 32, 60, 32, 62, 32, 61, 60, 32, 62, 61]⟩, .int .i64 1, .int .i64 200, .string ⟨#[42, 42]⟩, .int .i64 2, .int .i64 1100, .string ⟨#[59]⟩, .int .i64 2, .int .i64 1050, .string ⟨#[45, 62]⟩, .int .i64 2, .int .i64 200, .string ⟨#[94]⟩, .int .i64 3, .int .i64 500, .string ⟨#[43, 32, 45, 32, 47, 92, 32, 92, 47, 32, 120, 111, 114]⟩, .int .i64 3, .int .i64 400, .string ⟨#[42, 32, 47, 32, 47, 47, 32, 109, 111, 100, 32, 114, 101, 109, 32, 100, 105, 118, 32, 60, 60, 32, 62, 62]⟩, .int .i64 4, .int .i64 900, .string ⟨#[92, 43]⟩, .int .i64 4, .int .i64 200, .string ⟨#[45, 32, 92]⟩, .int .i64 5, .int .i64 1200, .string ⟨#[58, 45]⟩] 31) = W1 at hB1 hH1 ⊢
  clear hW1
  have HH1 := hd hH1
  clear hH1
  go_loopw [1, 22] (fun v i wr => ∃ j : Nat, j ≤ 11 ∧ i = .int .i64 j ∧ Below w.heap.size w wr ∧ Oth W1 wr ∧ OwnO w.heap.size wr v (opsR (defR.take j))) (fun _ i _ => 11 - (intOf i).toNat)
  case atStart => exact ⟨0, Nat.zero_le _, rfl, hB1, fun _ _ _ _ h _ => h, rfl, .inl ⟨rfl, rfl⟩⟩
  case round =>
    obtain ⟨j, hj, rfl, hb, hoth, hown⟩ := hrel
    obtain ⟨wo, rfl⟩ : ∃ wo, wo = wr := ⟨wr, rfl⟩
    have HOTH := hd hoth
    have HOWN := hd hown
    clear hoth hown
    by_cases hlt : j < 11
    · obtain ⟨r, hr⟩ : ∃ r, defR[j]? = some r := ⟨defR[j]'hlt, List.getElem?_eq_getElem hlt⟩
      have hfine := defR_fine r (List.mem_of_getElem? hr)
      obtain ⟨q0, q1, q2⟩ := rowsR j r hr
      have hblk := (uh HOTH) _ _ _ _ (uh HH1) (by decide)
      have c0 : wo.cell? ⟨w.heap.size, j * 3, none⟩ = some (.int .i64 r.kind) := by simp only [World.cell?, hblk]; exact q0
      have c1 : wo.cell? ⟨w.heap.size, j * 3 + 1, none⟩ = some (.int .i64 r.prio) := by simp only [World.cell?, hblk]; exact q1
      have c2 : wo.cell? ⟨w.heap.size, j * 3 + 2, none⟩ = some (.string r.text) := by simp only [World.cell?, hblk]; exact q2
      have hj1 : (j : Int) < 11 := by omega
      have hsp := fun (W : World) (hbW : Below w.heap.size w W) => split_any r.text m W hfine.size ((hbW.cell (p := ⟨splitLay_ren.g 1, 0, none⟩) (uh HM0)).trans (uh HM))
      rw [hfine.split, hfine.count] at hsp
      have hdj : opsR (defR.take (j + 1)) = opsR (defR.take j) ++ opsOf r.kind r.prio r.names := by rw [take_snoc hr]; simp [opsR]
      have hlj := opsR_len j
      have hl16 := hfine.len
      have hbx : Below wo.heap.size wo (wo.alloc (.cells #[.int .i64 r.kind, .int .i64 r.prio, .string r.text] 31)) := (Below.refl _ wo).alloc (Nat.le_refl _) _
      have hsp2 := hsp _ (hb.trans (hbx.mono hb.size))
      have hbox : (wo.alloc (.cells #[.int .i64 r.kind, .int .i64 r.prio, .string r.text] 31)).heap[wo.heap.size]? = some (.cells #[.int .i64 r.kind, .int .i64 r.prio, .string r.text] 31 (0, 0)) := heap_alloc_new wo _
      have HDJ := hd hdj
      have HBOX := hd hbox
      have HBX := hd hbx
      clear hsp hdj hfine hr q0 q1 q2 hblk hbox hbx
      go_wp2_with (go_at_call 10; refine hsp2.mono ?_; clear hsp2; rintro e W2 ⟨rfl, hW2⟩)
      have hB2 : Below wo.heap.size wo ((wo.alloc (.cells #[.int .i64 r.kind, .int .i64 r.prio, .string r.text] 31)).alloc (.cells (r.names.map Value.string).toArray 9)) := (uh HBX).alloc (by simp) _
      have hN2 : ((wo.alloc (.cells #[.int .i64 r.kind, .int .i64 r.prio, .string r.text] 31)).alloc (.cells (r.names.map Value.string).toArray 9)).heap[wo.heap.size + 1]? = some (.cells (r.names.map Value.string).toArray 9 (0, 0)) := by
        have h := heap_alloc_new (wo.alloc (.cells #[.int .i64 r.kind, .int .i64 r.prio, .string r.text] 31)) (.cells (r.names.map Value.string).toArray 9)
        rw [World.size_alloc] at h
        exact h
      have hX2 : ((wo.alloc (.cells #[.int .i64 r.kind, .int .i64 r.prio, .string r.text] 31)).alloc (.cells (r.names.map Value.string).toArray 9)).heap[wo.heap.size]? = some (.cells #[.int .i64 r.kind, .int .i64 r.prio, .string r.text] 31 (0, 0)) := by
        have h := ((Below.refl _ (wo.alloc (.cells #[.int .i64 r.kind, .int .i64 r.prio, .string r.text] 31))).alloc (Nat.le_refl _) (.cells (r.names.map Value.string).toArray 9)).block wo.heap.size (by simp)
        exact h.trans (uh HBOX)
      generalize hW3 : (wo.alloc (.cells #[.int .i64 r.kind, .int .i64 r.prio, .string r.text] 31)).alloc (.cells (r.names.map Value.string).toArray 9) = W3 at hB2 hN2 hX2 ⊢
      clear hW3 HBX HBOX c0 c1 c2
      have HB2 := hd hB2
      have HN2 := hd hN2
      have HX2 := hd hX2
      have hb3 : Below w.heap.size w W3 := hb.trans (hB2.mono hb.size)
      have hown3 : OwnO w.heap.size W3 u1 (opsR (defR.take j)) := World.ownsRow.kept (row := none) (uh HOWN) ⟨hB2.os, hB2.tape, hB2.output, hB2.size, fun k hk _ => hB2.block k hk⟩ (by cases u1.ownBlock <;> simp)
      have HOWN3 := hd hown3
      clear hN2 hX2 hB2 hown3 HOWN
      go_loopw [1, 31] (fun v i wq => ∃ k : Nat, k ≤ r.names.length ∧ i = .int .i64 k ∧ Below w.heap.size w wq ∧ Oth W3 wq ∧ OwnO w.heap.size wq v (opsR (defR.take j) ++ opsOf r.kind r.prio (r.names.take k))) (fun _ i _ => r.names.length - (intOf i).toNat)
      case atStart => exact ⟨0, Nat.zero_le _, rfl, hb3, fun _ _ _ _ h _ => h, by simpa [opsOf] using uh HOWN3⟩
      case round =>
        obtain ⟨k, hk, rfl, hbq, hothq, hownq⟩ := hrel
        have HOTHQ := hd hothq
        by_cases hlk : k < r.names.length
        · obtain ⟨s, hs⟩ : ∃ s, r.names[k]? = some s := ⟨r.names[k]'hlk, List.getElem?_eq_getElem hlk⟩
          have hnb := hothq _ _ _ _ (uh HN2) (by decide)
          have hxb := hothq _ _ _ _ (uh HX2) (by decide)
          have d0 : wr.cell? ⟨wo.heap.size + 1, k, none⟩ = some (.string s) := by simp [World.cell?, hnb, hs]
          have x0 : wr.cell? ⟨wo.heap.size, 0, none⟩ = some (.int .i64 r.kind) := by simp [World.cell?, hxb]
          have x1 : wr.cell? ⟨wo.heap.size, 1, none⟩ = some (.int .i64 r.prio) := by simp [World.cell?, hxb]
          have hx : opsR (defR.take j) ++ opsOf r.kind r.prio (r.names.take (k + 1)) = (opsR (defR.take j) ++ opsOf r.kind r.prio (r.names.take k)) ++ [⟨s, r.prio, r.kind⟩] := by rw [take_snoc hs]; simp [opsOf]
          have hlenq : (opsR (defR.take j) ++ opsOf r.kind r.prio (r.names.take k)).length ≤ 100 := by simp [opsOf]; omega
          have hbA : Below wr.heap.size wr (wr.alloc (.cells #[.string s, .int .i64 r.prio, .int .i64 r.kind] 27)) := (Below.refl _ wr).alloc (Nat.le_refl _) _
          have hownA : (wr.alloc (.cells #[.string s, .int .i64 r.prio, .int .i64 r.kind] 27)).ownsRow w.heap.size 27 3 u1 _ _ := World.ownsRow.alloc hownq _
          have hone := oneRow wr ⟨s, r.prio, r.kind⟩
          have hk1 : (k : Int) < r.names.length := by omega
          have HX := hd hx
          have HL := hd hlenq
          have HBA := hd hbA
          have HOA := hd hownA
          have HONE := hd hone
          clear hx hlenq hbA hownA hone hnb hxb hownq hothq hs
          go_wp2_with (at_builtin; go_must (refine wpList_append_own_at _ rfl _ _ 22 rfl w.heap.size 27 i0 _ 3 32 Tryd.underOpSlice (uh HI) (uh HZ0) (uh HZ1) (uh HZ2) rfl (by decide) _ _ _ rfl (uh HOA) ⟨wr.heap.size, 0, none⟩ 1 1 ([(⟨s, r.prio, r.kind⟩ : OV)].flatMap oRow) rfl rfl (uh HONE) (oRow_one _) (by have := uh HL; unfold maxLen; omega) (by have := uh HL; omega) (by have := hbq.size; simp; omega) ?_; intro v' w1 hown' hgrow hnil' hbk'))
          have hown2 : OwnO w.heap.size w1 v' (opsR (defR.take j) ++ opsOf r.kind r.prio (r.names.take (k + 1))) := by
            rw [uh HX]
            unfold OwnO
            rw [List.flatMap_append, List.length_append]
            exact hown'
          have hb2 : Below w.heap.size w w1 := (hbq.trans ((uh HBA).mono hbq.size)).grown hgrow (by have := hbq.size; simp; omega) fun g hg => ((uh HOA).lt g hg).1
          have ho2 : Oth W3 w1 := ((uh HOTHQ).trans (Oth.of_below (uh HBA))).trans (Oth.of_grown (uh HOA) hgrow)
          have HO2 := hd hown2
          have HT2 := hd ho2
          clear hown' hown2 hnil' hbk' hgrow ho2
          go_wp2_with fail
          go_roundw
          case rel => exact ⟨k + 1, by omega, by go_num, hb2, uh HT2, uh HO2⟩
          case measure => simp [intOf]; omega
        · have hx : opsR (defR.take j) ++ opsOf r.kind r.prio (r.names.take k) = opsR (defR.take (j + 1)) := by rw [uh HDJ, show r.names.take k = r.names from List.take_of_length_le (by omega)]
          rw [hx] at hownq
          have HO := hd hownq
          have hk1 : ¬ (k : Int) < r.names.length := by omega
          have hot : Oth W1 wr := ((uh HOTH).trans (Oth.of_below (uh HB2))).trans hothq
          have HOT := hd hot
          clear hx hownq hothq hot
          go_wp2_with fail
          go_roundw
          case rel => exact ⟨j + 1, by omega, by go_num, hbq, uh HOT, uh HO⟩
          case measure => simp [intOf]; omega
    · have hall : opsR (defR.take j) = defOps := by rw [List.take_of_length_le (by simp [defR]; omega)]; exact opsR_def
      rw [hall] at HOWN
      have hj1 : ¬ (j : Int) < 11 := by omega
      clear hall
      go_wp2_with fail
      go_ret
      exact ⟨_, rfl, hb, uh HOWN⟩
end Go.Proofs.YtodolgpcnleahaaDoor

