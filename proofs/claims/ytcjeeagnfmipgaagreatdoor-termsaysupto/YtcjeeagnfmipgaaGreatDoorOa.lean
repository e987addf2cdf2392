import Derived.Test.YtcjeeagnfmipgaaGreatDoorPps
import Derived.Test.YtcjeeagnfmipgaaGreatDoorMs
import Derived.Test.YtcjeeagnfmipgaaGreatDoorHss
import Derived.Test.YtcjeeagnfmipgaaGreatDoorSws
import Derived.Test.YtcjeeagnfmipgaaGreatDoorLs
import Derived.Test.YtcjeeagnfmipgaaGreatDoorVw
import Derived.Test.YtcjeeagnfmipgaaGreatDoorSz
/- The law TermSays, its function one: no term. -/
namespace Go.Proofs.YtcjeeagnfmipgaaGreatDoor
open Go.RowKit Go.Shelf Go.Maps

theorem none_zero (w : World) : Calls Tryz.prog 35 #[zeroT.val] w fun e W' => e = .returned (.bool true) ∧ Below w.heap.size w W' :=
  (none_any zeroT w).mono fun e W' h => ⟨h.1.trans (by simp [zeroT]), h.2⟩

set_option maxRecDepth 100000 in
set_option maxHeartbeats 4000000 in
theorem one_bad {n : Nat} (t : Tm n) (f : Int) (a : Option Addr) (len cap : Nat) (w : World) (hT : IsT w.heap.size w t) (hok : okT t = false) :
    Calls Tryz.prog 7 #[t.tv.val, .int .i64 f, .slice a len cap, .bool false] w fun e W' => e = .returned (.bool true) ∧ Below w.heap.size w W' := by
  obtain ⟨W1, hW1⟩ : ∃ W1, w.alloc (.cells #[.int .i64 t.tv.k, .int .i64 t.tv.N, .string t.tv.s, .slice t.tv.a t.tv.len t.tv.cap] 24) = W1 := ⟨_, rfl⟩
  have hB1 : Below w.heap.size w W1 := by rw [← hW1]; exact (Below.refl _ w).alloc (Nat.le_refl _) _
  have bx : BoxT W1 w.heap.size t.tv := by rw [← hW1]; exact World.alloc_heap_new w _
  have h1 := fun (W : World) (hb : Below w.heap.size w W) => measure_bad t W ((hT.below hb).mono hb.size) hok
  have h2 := fun (W : World) (hb : Below w.heap.size w W) => vars_bad t W ((hT.below hb).mono hb.size) hok
  have h3 := fun (W : World) (hb : Below w.heap.size w W) => rename_bad t f W ((hT.below hb).mono hb.size) hok
  have h4 := fun (W : World) (hb : Below w.heap.size w W) => at_bad t a len cap W ((hT.below hb).mono hb.size) hok
  have h5 := none_zero
  simp only [TV.val, zeroT] at h1 h2 h3 h4 h5 ⊢
  have H2 := hide h2
  have H3 := hide h3
  have H4 := hide h4
  have H5 := hide h5
  have hc := h1 W1 hB1
  have HB := hide hB1
  have HX := hide bx
  have c0 := bx.c0
  have c1 := bx.c1
  have c2 := bx.c2
  have c3 := bx.c3
  clear h1 h2 h3 h4 h5 hT hok hB1 bx
  go_enter Tryz.func7, Tryz.ntmps7
  go_wp2_with fail
  refine hc.mono ?_
  clear hc c0 c1 c2 c3
  rintro e W2 ⟨rfl, hb2⟩
  have hB2 := (unhide HB).trans (hb2.mono (unhide HB).size)
  have bx2 := (unhide HX).kept hb2
  have hc := (unhide H2) W2 hB2
  have c0 := bx2.c0
  have c1 := bx2.c1
  have c2 := bx2.c2
  have c3 := bx2.c3
  have HB2 := hide hB2
  have HX2 := hide bx2
  clear HB HX H2 hb2 hB2 bx2
  go_wp2_with fail
  refine hc.mono ?_
  clear hc c0 c1 c2 c3
  rintro e W3 ⟨rfl, hb3⟩
  have hB3 := (unhide HB2).trans (hb3.mono (unhide HB2).size)
  have bx3 := (unhide HX2).kept hb3
  have hc := (unhide H3) W3 hB3
  have c0 := bx3.c0
  have c1 := bx3.c1
  have c2 := bx3.c2
  have c3 := bx3.c3
  have HB3 := hide hB3
  have HX3 := hide bx3
  clear HB2 HX2 H3 hb3 hB3 bx3
  go_wp2_with fail
  refine hc.mono ?_
  clear hc c0 c1 c2 c3
  rintro e W4 ⟨rfl, hb4⟩
  have hB4 := (unhide HB3).trans (hb4.mono (unhide HB3).size)
  have hs4 := hB4.size
  have hb5 : Below W4.heap.size W4 (W4.alloc (.cells #[.int .i64 0, .int .i64 0, .string ⟨#[]⟩, .slice none 0 0] 24)) := by exact (Below.refl _ W4).alloc (Nat.le_refl _) _
  have hB5 : Below w.heap.size w (W4.alloc (.cells #[.int .i64 0, .int .i64 0, .string ⟨#[]⟩, .slice none 0 0] 24)) := hB4.trans (hb5.mono hs4)
  have bx5 := ((unhide HX3).kept hb4).kept hb5
  have bz5 : BoxT (W4.alloc (.cells #[.int .i64 0, .int .i64 0, .string ⟨#[]⟩, .slice none 0 0] 24)) W4.heap.size zeroT := by exact World.alloc_heap_new W4 _
  have hc := (unhide H4) (W4.alloc (.cells #[.int .i64 0, .int .i64 0, .string ⟨#[]⟩, .slice none 0 0] 24)) hB5
  have c0 := bx5.c0
  have c1 := bx5.c1
  have c2 := bx5.c2
  have c3 := bx5.c3
  have HB5 := hide hB5
  have HZ5 := hide bz5
  clear HB3 HX3 H4 hb4 hB4 hb5 hB5 bx5 bz5
  go_wp2_with fail
  refine hc.mono ?_
  clear hc c0 c1 c2 c3
  rintro e W6 ⟨rfl, hb6⟩
  have hB6 := (unhide HB5).trans (hb6.mono (unhide HB5).size)
  have hs6 := hB6.size
  have hb7 : Below W6.heap.size W6 (W6.alloc (.cells #[.int .i64 0, .int .i64 0, .string ⟨#[]⟩, .slice none 0 0] 24)) := by exact (Below.refl _ W6).alloc (Nat.le_refl _) _
  have hB7 : Below w.heap.size w (W6.alloc (.cells #[.int .i64 0, .int .i64 0, .string ⟨#[]⟩, .slice none 0 0] 24)) := hB6.trans (hb7.mono hs6)
  have bz7 := ((unhide HZ5).kept hb6).kept hb7
  have by7 : BoxT (W6.alloc (.cells #[.int .i64 0, .int .i64 0, .string ⟨#[]⟩, .slice none 0 0] 24)) W6.heap.size zeroT := by exact World.alloc_heap_new W6 _
  have hc := (unhide H5) (W6.alloc (.cells #[.int .i64 0, .int .i64 0, .string ⟨#[]⟩, .slice none 0 0] 24))
  have c0 := bz7.c0
  have c1 := bz7.c1
  have c2 := bz7.c2
  have c3 := bz7.c3
  simp only [zeroT] at c0 c1 c2 c3
  have HB7 := hide hB7
  have HY7 := hide by7
  clear HB5 HZ5 hb6 hB6 hb7 hB7 bz7 by7
  go_wp2_with fail
  refine hc.mono ?_
  clear hc c0 c1 c2 c3
  rintro e W8 ⟨rfl, hb8⟩
  have hB8 := (unhide HB7).trans (hb8.mono (unhide HB7).size)
  have by8 := (unhide HY7).kept hb8
  have hc := (unhide H5) W8
  have c0 := by8.c0
  have c1 := by8.c1
  have c2 := by8.c2
  have c3 := by8.c3
  simp only [zeroT] at c0 c1 c2 c3
  have HB8 := hide hB8
  clear HB7 HY7 hb8 hB8 by8 H5
  go_wp2_with fail
  refine hc.mono ?_
  clear hc c0 c1 c2 c3
  rintro e W9 ⟨rfl, hb9⟩
  have hB9 := (unhide HB8).trans (hb9.mono (unhide HB8).size)
  have HB9 := hide hB9
  clear hB9 hb9 HB8
  go_wp2_with fail
  exact bodyPost_ret (v := .bool true) (by simp [results, Tryz.results7, go_sem]) rfl ⟨rfl, unhide HB9⟩
end Go.Proofs.YtcjeeagnfmipgaaGreatDoor

