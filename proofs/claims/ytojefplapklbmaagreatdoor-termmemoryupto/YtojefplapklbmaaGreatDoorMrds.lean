import Derived.Test.YtojefplapklbmaaGreatDoorMrbs
/- The contract of hornkeep.twice: what a function gives is the caller's. -/
namespace Go.Proofs.YtojefplapklbmaaGreatDoor
open Go.RowKit Go.Shelf Go.Maps

theorem tidy_of {lo : Nat} {W : World} : ∀ {n : Nat} {t : Tm n}, WhT lo W t → (∀ x ∈ code t, x.2.2.2 ≤ 50) → Tidy W.heap.size t := by
  intro n
  induction n with
  | zero => intro t; exact Empty.elim t
  | succ n ih =>
    intro t hw h50
    obtain ⟨x, kids⟩ := t
    obtain ⟨w1, w2⟩ := hw
    rw [code_succ] at h50
    refine ⟨⟨h50 x.nd (by simp), fun b o ha => ?_⟩, fun u hu => ih (w2 u hu) fun z hz => h50 z (by simp only [List.mem_cons]; exact .inr (List.mem_flatMap.2 ⟨u, hu, hz⟩))⟩
    rcases w1 with ⟨_, e2, _⟩ | ⟨b', arr, _, ha', _, hb, _⟩
    · rw [e2] at ha; cases ha
    · rw [ha'] at ha
      simp at ha
      obtain ⟨rfl, rfl⟩ := ha
      exact (Array.getElem?_eq_some_iff.1 hb).1
/-- A function value that gives a term of the code c in new memory, in every world behind w. -/
def Gives (g : Nat) (lb : Array Value) (D : Nat) (c : List Nd) (w : World) : Prop :=
  ∀ W, Below w.heap.size w W → Calls Tryz.prog g lb W fun e W' => ∃ t : Tm D, e = .returned t.tv.val ∧ Below W.heap.size W W' ∧ IsT W'.heap.size W' t ∧ WhT W.heap.size W' t ∧ code t = c
theorem Spoils.below {lo hi n : Nat} {A B : World} (h : Spoils (fun b => lo ≤ b ∧ b < hi) A B) (hn : n ≤ lo) (hA : n ≤ A.heap.size) : Below n A B :=
  ⟨h.os, h.tape, h.output, h.size, fun k hk => h.other k (by omega) (fun hs => by have := hs.1; omega)⟩
set_option maxRecDepth 100000 in
set_option maxHeartbeats 2000000 in
theorem twice_any (g : Nat) (lb : Array Value) (eg : ∀ args w, (callFunc g args).run Tryz.prog w = .ok (.enter g args) w) (D : Nat) (c : List Nd) (w : World) (h50 : ∀ x ∈ c, x.2.2.2 ≤ 50) (hg : Gives g lb D c w) :
    Calls Tryz.prog 13 #[.func (.func g) #[] lb] w fun e W' => e = .returned (.bool true) ∧ Below w.heap.size w W' := by
  have h1 := hg w (Below.refl _ _)
  have HG := hide hg
  clear hg
  go_enter Tryz.func13, Tryz.ntmps13
  go_wp2_with fail
  refine h1.mono ?_
  clear h1
  rintro e W1 ⟨t1, rfl, b1, T1, wh1, c1⟩
  have hs := spoilTerm_any w.heap.size W1.heap.size D t1 W1 b1.size (Nat.le_refl _) wh1 T1 (tidy_of wh1 (by rw [c1]; exact h50))
  clear T1 wh1 c1
  go_wp2_with fail
  refine hs.mono ?_
  clear hs
  rintro e W2 ⟨rfl, sp⟩
  have B2 : Below w.heap.size w W2 := b1.trans (sp.below (Nat.le_refl _) b1.size)
  have h1 := HG.out W2 B2
  clear sp
  go_wp2_with fail
  refine h1.mono ?_
  clear h1
  rintro e W3 ⟨t3, rfl, b3, T3, wh3, c3⟩
  have htd := tidy_of wh3 (by rw [c3]; exact h50)
  dsimp only [TV.val]
  go_wp2_with fail
  have bA : Below W3.heap.size W3 (W3.alloc (.cells #[.int .i64 t3.tv.k, .int .i64 t3.tv.N, .string t3.tv.s, .slice t3.tv.a t3.tv.len t3.tv.cap] 24)) := (Below.refl _ W3).alloc (Nat.le_refl _) _
  have hA : (W3.alloc (.cells #[.int .i64 t3.tv.k, .int .i64 t3.tv.N, .string t3.tv.s, .slice t3.tv.a t3.tv.len t3.tv.cap] 24)).heap.size = W3.heap.size + 1 := by simp
  have boxA := BoxT.new W3 t3.tv
  have ho := own_any D t3 _ ((T3.below bA).mono bA.size) (fun x hx => Nat.le_trans (h50 x (by rw [← c3]; exact hx)) (by omega))
  simp only [TV.val] at ho
  refine ho.mono ?_
  clear ho
  rintro e W4 ⟨t4, rfl, b4, o4, c4⟩
  rw [hA] at b4 o4
  have b34 : Below W3.heap.size W3 W4 := bA.trans (b4.mono (by omega))
  have bx4 : BoxT (W4.alloc (.cells #[.int .i64 t4.tv.k, .int .i64 t4.tv.N, .string t4.tv.s, .slice t4.tv.a t4.tv.len t4.tv.cap] 24)) W3.heap.size t3.tv := (Below.heap_alloc _ _ _ (by have := b4.size; omega)).trans ((b4.block W3.heap.size (by omega)).trans boxA)
  have by4 := BoxT.new W4 t4.tv
  have bB : Below W4.heap.size W4 (W4.alloc (.cells #[.int .i64 t4.tv.k, .int .i64 t4.tv.N, .string t4.tv.s, .slice t4.tv.a t4.tv.len t4.tv.cap] 24)) := (Below.refl _ W4).alloc (Nat.le_refl _) _
  have b35 : Below W3.heap.size W3 (W4.alloc (.cells #[.int .i64 t4.tv.k, .int .i64 t4.tv.N, .string t4.tv.s, .slice t4.tv.a t4.tv.len t4.tv.cap] 24)) := b34.trans (bB.mono b34.size)
  have hs := spoilTerm_any W2.heap.size W3.heap.size D t3 _ b3.size b35.size (wh3.kept fun b _ hl => b35.block b hl) ((T3.below b35).mono b35.size) htd
  have o5 := o4.below bB
  have x0 := bx4.c0
  have x1 := bx4.c1
  have x2 := bx4.c2
  have x3 := bx4.c3
  clear T3 wh3 htd o4 bx4 boxA
  simp only [TV.val] at hs
  dsimp only [TV.val]
  go_wp2_with fail
  refine hs.mono ?_
  clear hs
  rintro e W5 ⟨rfl, sp⟩
  clear x0 x1 x2 x3
  have hB4 : (W4.alloc (.cells #[.int .i64 t4.tv.k, .int .i64 t4.tv.N, .string t4.tv.s, .slice t4.tv.a t4.tv.len t4.tv.cap] 24)).heap.size = W4.heap.size + 1 := by simp
  have o6 : Owned (W3.heap.size + 1) W5 t4 := o5.fromS (S := (W3.heap.size + 1 ≤ ·)) o5.blk (fun b h1 h2 _ => sp.other b h2 (fun hs => by have := hs.2; omega)) sp.size
  have B5 : Below w.heap.size w W5 := ((B2.trans (b3.mono B2.size)).trans (b35.mono (Nat.le_trans B2.size b3.size))).trans (sp.below B2.size (Nat.le_trans (Nat.le_trans B2.size b3.size) b35.size))
  have by5 : BoxT W5 W4.heap.size t4.tv := (sp.other W4.heap.size (by omega) (fun hs => by have := hs.2; have := b34.size; omega)).trans by4
  have hy5 : W4.heap.size < W5.heap.size := by have := sp.size; omega
  have h1 := HG.out W5.drew B5.drew
  have y0 := by5.c0
  have y1 := by5.c1
  have y2 := by5.c2
  have y3 := by5.c3
  clear sp o5 by4 by5
  have hcc : code t4 = c := c4.trans c3
  have HF : Hid (∀ (t6 : Tm D) W6, Below W5.drew.heap.size W5.drew W6 → IsT W6.heap.size W6 t6 → code t6 = c → Below W5.heap.size W5 W6 ∧ Calls Tryz.prog 41 #[t6.tv.val, t4.tv.val] W6 fun e W' => e = .returned (.bool true) ∧ Below W5.heap.size W5 W' ∧ Below w.heap.size w W') := fun t6 W6 b6 T6 c6 => by
    have b56 : Below W5.heap.size W5 W6 := (Below.refl _ W5).drew.trans b6
    refine ⟨b56, (same_any D t6 t4 W6 T6 ((o6.below b56).is)).mono fun e W' h => ?_⟩
    rw [sameT_code T6.wl o6.is.wl, c6, hcc] at h
    exact ⟨by simpa using h.1, b56.trans (h.2.mono b56.size), (B5.trans (b56.mono B5.size)).trans (h.2.mono (Nat.le_trans B5.size b56.size))⟩
  simp only [TV.val] at HF
  clear hcc c4 c3 o6 B5 hB4 b35 bB b34 b4 hA bA b3 B2 b1 HG h50
  go_wp2_with fail
  go_region_held3 (fun w' => w'.cell? ⟨W4.heap.size, 0, none⟩ = some (.int .i64 t4.tv.k) ∧ w'.cell? ⟨W4.heap.size, 1, none⟩ = some (.int .i64 t4.tv.N) ∧ w'.cell? ⟨W4.heap.size, 2, none⟩ = some (.string t4.tv.s) ∧ w'.cell? ⟨W4.heap.size, 3, none⟩ = some (.slice t4.tv.a t4.tv.len t4.tv.cap)) (go_keep)
    (first | (go_at_call 41; refine hsa.mono ?_; clear hsa; rintro e W7 ⟨rfl, b57, hb7⟩; have hbd := bcell b57) | (with_reducible refine h1.mono ?_; clear h1; rintro e W6 ⟨t6, rfl, b6, T6, wh6, c6⟩; obtain ⟨b56, hsa⟩ := HF.out t6 W6 b6 T6 c6; clear b6 T6 wh6 c6 HF; dsimp only [TV.val]; have hbc := bcell b56))
  go_wp2_with fail
  go_ret
  exact ⟨rfl, hb7⟩
end Go.Proofs.YtojefplapklbmaaGreatDoor

/- The contracts of hornkeep.spoilt at binds and at numbers: but for the row's own block all is as it was. -/
namespace Go.Proofs.YtojefplapklbmaaGreatDoor
open Go.RowKit Go.Shelf Go.Maps

/-- A whole block of cap things of k cells each. -/
def RowK (T : TypeId) (k : Nat) (W : World) (b cap : Nat) : Prop := ∃ arr : Array Value, W.heap[b]? = some (.cells arr T (0, 0)) ∧ arr.size = cap * k
theorem RowK.lt {T : TypeId} {k : Nat} {W : World} {b cap : Nat} (h : RowK T k W b cap) : b < W.heap.size := by obtain ⟨arr, h, _⟩ := h; exact (Array.getElem?_eq_some_iff.1 h).1
theorem RowK.cell {T : TypeId} {k : Nat} {W : World} {b cap : Nat} (h : RowK T k W b cap) {o : Nat} (ho : o < cap * k) : (∃ v, W.cell? ⟨b, o, none⟩ = some v) ∧ W.frozen? ⟨b, o, none⟩ = false := by
  obtain ⟨arr, h, hs⟩ := h
  refine ⟨⟨arr[o]'(by omega), ?_⟩, ?_⟩
  · simp [World.cell?, h]
  · simp [World.frozen?, h]
theorem RowK.kept {T : TypeId} {k : Nat} {W W' : World} {b cap : Nat} (h : RowK T k W b cap) (hb : W'.heap[b]? = W.heap[b]?) : RowK T k W' b cap := by
  obtain ⟨arr, h, hs⟩ := h
  exact ⟨arr, hb.trans h, hs⟩
theorem RowK.setCell {T : TypeId} {k : Nat} {W : World} {b cap : Nat} (h : RowK T k W b cap) (o : Nat) (v : Value) : RowK T k (W.setCell ⟨b, o, none⟩ v) b cap := by
  obtain ⟨arr, h, hs⟩ := h
  obtain ⟨hlt, hk⟩ := Array.getElem?_eq_some_iff.1 h
  refine ⟨arr.setIfInBounds o v, ?_, by simpa using hs⟩
  show (W.heap.modify b _)[b]? = _
  rw [Array.getElem?_eq_getElem (by rw [Array.size_modify]; exact hlt), Array.getElem_modify_self, hk]
  rfl
theorem RowK.owns {T : TypeId} {k : Nat} {W : World} {b cap len : Nat} (h : RowK T k W b cap) (hlc : len ≤ cap) (hcm : cap ≤ 9223372036854775807) : ∃ xs, W.ownsRow 0 T k (.slice (some ⟨b, 0, none⟩) len cap) len xs := by
  obtain ⟨arr, h, hs⟩ := h
  have hle : len * k ≤ cap * k := Nat.mul_le_mul_right _ hlc
  exact ⟨arr.toList.take (len * k), by simp; omega, .inr ⟨b, cap, arr, rfl, Nat.zero_le _, h, hlc, by unfold maxLen; omega, hs, rfl⟩⟩
/-- Of what was there only block b may have been turned. -/
structure OnlyB (w : World) (b : Nat) (W : World) : Prop where
  os : W.os = w.os
  tape : W.tape = w.tape
  output : W.output = w.output
  size : w.heap.size ≤ W.heap.size
  other : ∀ k, k < w.heap.size → k ≠ b → W.heap[k]? = w.heap[k]?
theorem OnlyB.refl (w : World) (b : Nat) : OnlyB w b w := ⟨rfl, rfl, rfl, Nat.le_refl _, fun _ _ _ => rfl⟩
theorem OnlyB.setCell {w W : World} {b : Nat} (h : OnlyB w b W) (o : Nat) (v : Value) : OnlyB w b (W.setCell ⟨b, o, none⟩ v) :=
  ⟨h.os, h.tape, h.output, by simpa using h.size, fun k hk hn => (Below.heap_setCell _ _ _ _ hn).trans (h.other k hk hn)⟩
theorem OnlyB.then_below {w W V : World} {b : Nat} (h : OnlyB w b W) (k : Below W.heap.size W V) : OnlyB w b V :=
  ⟨k.os.trans h.os, k.tape.trans h.tape, k.output.trans h.output, Nat.le_trans h.size k.size, fun i hi hn => (k.block i (Nat.lt_of_lt_of_le hi h.size)).trans (h.other i hi hn)⟩
theorem OnlyB.grown {w W V : World} {b : Nat} (h : OnlyB w b W) (k : W.grownBy V (some b)) : OnlyB w b V :=
  ⟨k.os.trans h.os, k.tape.trans h.tape, k.output.trans h.output, Nat.le_trans h.size k.size, fun i hi hn => (k.block i (Nat.lt_of_lt_of_le hi h.size) (by simpa using hn)).trans (h.other i hi hn)⟩
theorem thr_new (W : World) : ∀ j u, ([.int .i64 (-7), .int .i64 (-7), .int .i64 (-7)] : List Value)[j]? = some u → (W.alloc (.cells #[.int .i64 (-7), .int .i64 (-7), .int .i64 (-7)] 2)).cell? ((⟨W.heap.size, 0, none⟩ : Addr).add j) = some u := by
  intro j u hj
  rw [addr_add, Nat.zero_add]
  have hl := (List.getElem?_eq_some_iff.1 hj).1
  simp only [List.length_cons, List.length_nil] at hl
  have : j = 0 ∨ j = 1 ∨ j = 2 := by omega
  rcases this with rfl | rfl | rfl <;> (simp at hj; subst hj; simp)
theorem thr_one : ∀ u ∈ ([.int .i64 (-7), .int .i64 (-7), .int .i64 (-7)] : List Value), u.oneCell' = true := by
  intro u hu
  simp at hu
  subst hu
  rfl
theorem Tryz.info_i64 : (Tryz.prog.info? 2).map (fun i => (i.zero, i.size, i.bytes)) = some (some (.int .i64 0), 1, 8) := by kernel_rfl

set_option maxRecDepth 100000 in
set_option maxHeartbeats 1000000 in
theorem spoiltI_row (b len cap : Nat) (w : World) (hr : RowK 2 1 w b cap) (hlc : len ≤ cap) (hcap : cap ≤ 9223372036854775807) (hlen : len ≤ 4194304) :
    Calls Tryz.prog 27 #[.slice (some ⟨b, 0, none⟩) len cap, .int .i64 (-7)] w fun e W' => e = .returned (.tuple #[]) ∧ OnlyB w b W' := by
  obtain ⟨i0, hi, hz0, hz1, hz2⟩ := info_parts Tryz.info_i64
  have hblt := hr.lt
  have HI := hide hi
  have HZ0 := hide hz0
  have HZ1 := hide hz1
  have HZ2 := hide hz2
  have HR := hide hr
  clear hr hi hz0 hz1 hz2
  go_enter Tryz.func27, Tryz.ntmps27
  go_wp2_with fail
  go_loopw [12] (fun i wr => ∃ j : Nat, j ≤ cap ∧ i = .int .i64 j ∧ OnlyB w b wr ∧ RowK 2 1 wr b cap) (fun i _ => cap - (intOf i).toNat)
  case atStart => exact ⟨0, Nat.zero_le _, rfl, OnlyB.refl _ _, unhide HR⟩
  case round =>
    obtain ⟨j, hj, rfl, ho, hr⟩ := hrel
    by_cases hlt : j < cap
    · have hn1 := ho.setCell j (.int .i64 (-7))
      have hn2 := hr.setCell j (.int .i64 (-7))
      obtain ⟨⟨_, z0⟩, y0⟩ := hr.cell (o := j) (by omega)
      have HN1 := hide hn1
      have HN2 := hide hn2
      have hj1 : (j : Int) < cap := by omega
      clear hn1 hn2 hr ho
      go_wp2_with fail
      go_roundw
      case rel => exact ⟨j + 1, by omega, by go_num, unhide HN1, unhide HN2⟩
      case measure => simp [intOf]; omega
    · obtain rfl : j = cap := by omega
      have hj1 : ¬ (j : Int) < j := by omega
      have hbA : Below wr.heap.size wr (wr.alloc (.cells #[.int .i64 (-7), .int .i64 (-7), .int .i64 (-7)] 2)) := (Below.refl _ wr).alloc (Nat.le_refl _) _
      obtain ⟨xs, hown⟩ := (hr.kept (hbA.block b hr.lt)).owns (len := len) hlc hcap
      have HOWN := hide hown
      have HOB := hide (ho.then_below hbA)
      clear hown hbA hr ho
      go_wp2_with (at_builtin; go_must (refine wpList_append_own_at _ rfl _ _ 47 rfl 0 2 i0 _ 1 8 Tryz.underlying47 (unhide HI) (unhide HZ0) (unhide HZ1) (unhide HZ2) rfl (by decide) (.slice (some ⟨b, 0, none⟩) len j) len xs rfl (unhide HOWN) ⟨wr.heap.size, 0, none⟩ 3 3 [.int .i64 (-7), .int .i64 (-7), .int .i64 (-7)] rfl rfl (thr_new wr) thr_one (by unfold maxLen; omega) (by omega) (Nat.zero_le _) ?_; intro v' W' hown' hgrow hnil' hbk'))
      exact bodyPost_end (v := .tuple #[]) (by simp [results, Tryz.results27, go_sem]) rfl ⟨rfl, (unhide HOB).grown hgrow⟩
end Go.Proofs.YtojefplapklbmaaGreatDoor

/- The contracts of hornkeep.spoilt at binds and of hornkeep.spoilBinds. -/
namespace Go.Proofs.YtojefplapklbmaaGreatDoor
open Go.RowKit Go.Shelf Go.Maps

theorem grown_none {w V : World} (k : w.grownBy V none) : Below w.heap.size w V := ⟨k.os, k.tape, k.output, k.size, fun i hi => k.block i hi (by simp)⟩
set_option maxRecDepth 100000 in
set_option maxHeartbeats 1000000 in
theorem spoiltI_nil (w : World) :
    Calls Tryz.prog 27 #[.slice none 0 0, .int .i64 (-7)] w fun e W' => e = .returned (.tuple #[]) ∧ Below w.heap.size w W' := by
  obtain ⟨i0, hi, hz0, hz1, hz2⟩ := info_parts Tryz.info_i64
  have HI := hide hi
  have HZ0 := hide hz0
  have HZ1 := hide hz1
  have HZ2 := hide hz2
  clear hi hz0 hz1 hz2
  go_enter Tryz.func27, Tryz.ntmps27
  go_wp2_with fail
  go_loopw [12] (fun i wr => i = .int .i64 0 ∧ wr = w) (fun i _ => 0)
  case atStart => exact ⟨rfl, rfl⟩
  case round =>
    obtain ⟨rfl, rfl⟩ := hrel
    have hbA : Below wr.heap.size wr (wr.alloc (.cells #[.int .i64 (-7), .int .i64 (-7), .int .i64 (-7)] 2)) := (Below.refl _ wr).alloc (Nat.le_refl _) _
    have hown : (wr.alloc (.cells #[.int .i64 (-7), .int .i64 (-7), .int .i64 (-7)] 2)).ownsRow 0 2 1 (.slice none 0 0) 0 [] := ⟨rfl, .inl ⟨rfl, rfl⟩⟩
    have HOWN := hide hown
    have HOB := hide hbA
    clear hown hbA
    go_wp2_with (at_builtin; go_must (refine wpList_append_own_at _ rfl _ _ 47 rfl 0 2 i0 _ 1 8 Tryz.underlying47 (unhide HI) (unhide HZ0) (unhide HZ1) (unhide HZ2) rfl (by decide) (.slice none 0 0) 0 [] rfl (unhide HOWN) ⟨wr.heap.size, 0, none⟩ 3 3 [.int .i64 (-7), .int .i64 (-7), .int .i64 (-7)] rfl rfl (thr_new wr) thr_one (by unfold maxLen; omega) (by omega) (Nat.zero_le _) ?_; intro v' W' hown' hgrow hnil' hbk'))
    exact bodyPost_end (v := .tuple #[]) (by simp [results, Tryz.results27, go_sem]) rfl ⟨rfl, (unhide HOB).trans ((grown_none hgrow).mono (unhide HOB).size)⟩

/-- What is written over a bind. -/
def m5 : List Value := [.int .i64 (-7), .int .i64 9, .int .i64 (-77), .string ⟨#[115, 112, 111, 105, 108, 116]⟩, .slice none 0 0]
def m15 : List Value := m5 ++ m5 ++ m5
theorem m15_new (W : World) : ∀ j u, m15[j]? = some u → (W.alloc (.cells #[.int .i64 (-7), .int .i64 9, .int .i64 (-77), .string ⟨#[115, 112, 111, 105, 108, 116]⟩, .slice none 0 0, .int .i64 (-7), .int .i64 9, .int .i64 (-77), .string ⟨#[115, 112, 111, 105, 108, 116]⟩, .slice none 0 0, .int .i64 (-7), .int .i64 9, .int .i64 (-77), .string ⟨#[115, 112, 111, 105, 108, 116]⟩, .slice none 0 0] 82)).cell? ((⟨W.heap.size, 0, none⟩ : Addr).add j) = some u := by
  intro j u hj
  rw [addr_add, Nat.zero_add]
  have hl := (List.getElem?_eq_some_iff.1 hj).1
  have hm : m15.length = 15 := rfl
  rw [hm] at hl
  have : j = 0 ∨ j = 1 ∨ j = 2 ∨ j = 3 ∨ j = 4 ∨ j = 5 ∨ j = 6 ∨ j = 7 ∨ j = 8 ∨ j = 9 ∨ j = 10 ∨ j = 11 ∨ j = 12 ∨ j = 13 ∨ j = 14 := by omega
  rcases this with rfl | rfl | rfl | rfl | rfl | rfl | rfl | rfl | rfl | rfl | rfl | rfl | rfl | rfl | rfl <;> (simp [m15, m5] at hj; subst hj; simp)
theorem m15_one : ∀ u ∈ m15, u.oneCell' = true := by
  intro u hu
  simp [m15, m5] at hu
  rcases hu with rfl | rfl | rfl | rfl | rfl | rfl | rfl | rfl | rfl | rfl | rfl | rfl | rfl | rfl | rfl <;> rfl
/-- A box of a bind that is a mark. -/
def MkB (W : World) (B : Nat) : Prop := W.heap[B]? = some (.cells #[.int .i64 (-7), .int .i64 9, .int .i64 (-77), .string ⟨#[115, 112, 111, 105, 108, 116]⟩, .slice none 0 0] 82 (0, 0))
theorem MkB.cells {W : World} {B : Nat} (h : MkB W B) : W.cell? ⟨B, 0, none⟩ = some (.int .i64 (-7)) ∧ W.cell? ⟨B, 1, none⟩ = some (.int .i64 9) ∧ W.cell? ⟨B, 2, none⟩ = some (.int .i64 (-77)) ∧ W.cell? ⟨B, 3, none⟩ = some (.string ⟨#[115, 112, 111, 105, 108, 116]⟩) ∧ W.cell? ⟨B, 4, none⟩ = some (.slice none 0 0) := by
  refine ⟨?_, ?_, ?_, ?_, ?_⟩ <;> simp [World.cell?, show W.heap[B]? = _ from h]
def set5 (W : World) (b o : Nat) : World := ((((W.setCell ⟨b, o, none⟩ (.int .i64 (-7))).setCell ⟨b, o + 1, none⟩ (.int .i64 9)).setCell ⟨b, o + 2, none⟩ (.int .i64 (-77))).setCell ⟨b, o + 3, none⟩ (.string ⟨#[115, 112, 111, 105, 108, 116]⟩)).setCell ⟨b, o + 4, none⟩ (.slice none 0 0)
set_option maxRecDepth 100000 in
set_option maxHeartbeats 1000000 in
theorem spoiltB_row (b len cap : Nat) (w : World) (hr : RowK 82 5 w b cap) (hlc : len ≤ cap) (hcap : cap ≤ 9223372036854775807) (hlen : len ≤ 4194304) :
    Calls Tryz.prog 72 #[.slice (some ⟨b, 0, none⟩) len cap, .agg #[.int .i64 (-7), .int .i64 9, .int .i64 (-77), .string ⟨#[115, 112, 111, 105, 108, 116]⟩, .slice none 0 0]] w fun e W' => e = .returned (.tuple #[]) ∧ OnlyB w b W' := by
  obtain ⟨i0, hi, hz0, hz1, hz2⟩ := info_parts Tryz.info_bind
  have hblt := hr.lt
  have hB1 := (Below.refl _ w).alloc (Nat.le_refl _) (.cells #[.int .i64 (-7), .int .i64 9, .int .i64 (-77), .string ⟨#[115, 112, 111, 105, 108, 116]⟩, .slice none 0 0] 82)
  have hS : OnlyB w b (w.alloc (.cells #[.int .i64 (-7), .int .i64 9, .int .i64 (-77), .string ⟨#[115, 112, 111, 105, 108, 116]⟩, .slice none 0 0] 82)) ∧ RowK 82 5 (w.alloc (.cells #[.int .i64 (-7), .int .i64 9, .int .i64 (-77), .string ⟨#[115, 112, 111, 105, 108, 116]⟩, .slice none 0 0] 82)) b cap ∧ MkB (w.alloc (.cells #[.int .i64 (-7), .int .i64 9, .int .i64 (-77), .string ⟨#[115, 112, 111, 105, 108, 116]⟩, .slice none 0 0] 82)) w.heap.size :=
    ⟨(OnlyB.refl w b).then_below hB1, hr.kept (hB1.block b hblt), World.alloc_heap_new w _⟩
  have HI := hide hi
  have HZ0 := hide hz0
  have HZ1 := hide hz1
  have HZ2 := hide hz2
  have HS := hide hS
  clear hr hi hz0 hz1 hz2 hS hB1
  go_enter Tryz.func72, Tryz.ntmps72
  go_wp2_with fail
  go_loopw [12] (fun i wr => ∃ j : Nat, j ≤ cap ∧ i = .int .i64 j ∧ OnlyB w b wr ∧ RowK 82 5 wr b cap ∧ MkB wr w.heap.size) (fun i _ => cap - (intOf i).toNat)
  case atStart => exact ⟨0, Nat.zero_le _, rfl, unhide HS⟩
  case round =>
    obtain ⟨j, hj, rfl, ho, hr, hk⟩ := hrel
    obtain ⟨c0, c1, c2, c3, c4⟩ := hk.cells
    by_cases hlt : j < cap
    · have hn1 : OnlyB w b (set5 wr b (j * 5)) := ((((ho.setCell _ _).setCell _ _).setCell _ _).setCell _ _).setCell _ _
      have hn2 : RowK 82 5 (set5 wr b (j * 5)) b cap := ((((hr.setCell _ _).setCell _ _).setCell _ _).setCell _ _).setCell _ _
      have hn3 : MkB (set5 wr b (j * 5)) w.heap.size := by
        have hne : w.heap.size ≠ b := by omega
        exact ((Below.heap_setCell _ _ _ _ hne).trans ((Below.heap_setCell _ _ _ _ hne).trans ((Below.heap_setCell _ _ _ _ hne).trans ((Below.heap_setCell _ _ _ _ hne).trans (Below.heap_setCell _ _ _ _ hne))))).trans hk
      obtain ⟨⟨_, z0⟩, y0⟩ := hr.cell (o := j * 5) (by omega)
      obtain ⟨⟨_, z1⟩, y1⟩ := hr.cell (o := j * 5 + 1) (by omega)
      obtain ⟨⟨_, z2⟩, y2⟩ := hr.cell (o := j * 5 + 2) (by omega)
      obtain ⟨⟨_, z3⟩, y3⟩ := hr.cell (o := j * 5 + 3) (by omega)
      obtain ⟨⟨_, z4⟩, y4⟩ := hr.cell (o := j * 5 + 4) (by omega)
      have HN := hide (And.intro hn1 (And.intro hn2 hn3))
      have hj1 : (j : Int) < cap := by omega
      clear hn1 hn2 hn3 hr ho hk
      go_wp2_with fail
      go_roundw
      case rel => exact ⟨j + 1, by omega, by go_num, unhide HN⟩
      case measure => simp [intOf]; omega
    · obtain rfl : j = cap := by omega
      have hj1 : ¬ (j : Int) < j := by omega
      have hbA : Below wr.heap.size wr (wr.alloc (.cells #[.int .i64 (-7), .int .i64 9, .int .i64 (-77), .string ⟨#[115, 112, 111, 105, 108, 116]⟩, .slice none 0 0, .int .i64 (-7), .int .i64 9, .int .i64 (-77), .string ⟨#[115, 112, 111, 105, 108, 116]⟩, .slice none 0 0, .int .i64 (-7), .int .i64 9, .int .i64 (-77), .string ⟨#[115, 112, 111, 105, 108, 116]⟩, .slice none 0 0] 82)) := (Below.refl _ wr).alloc (Nat.le_refl _) _
      obtain ⟨xs, hown⟩ := (hr.kept (hbA.block b hr.lt)).owns (len := len) hlc hcap
      have HOWN := hide hown
      have HOB := hide (ho.then_below hbA)
      clear hown hbA hr ho hk
      go_wp2_with (at_builtin; go_must (refine wpList_append_own_at _ rfl _ _ 32 rfl 0 82 i0 _ 5 64 Tryz.underlying32 (unhide HI) (unhide HZ0) (unhide HZ1) (unhide HZ2) rfl (by decide) (.slice (some ⟨b, 0, none⟩) len j) len xs rfl (unhide HOWN) ⟨wr.heap.size, 0, none⟩ 3 3 m15 rfl rfl (m15_new wr) m15_one (by unfold maxLen; omega) (by omega) (Nat.zero_le _) ?_; intro v' W' hown' hgrow hnil' hbk'))
      exact bodyPost_end (v := .tuple #[]) (by simp [results, Tryz.results72, go_sem]) rfl ⟨rfl, (unhide HOB).grown hgrow⟩
end Go.Proofs.YtojefplapklbmaaGreatDoor

/- The contract of hornkeep.spoilBinds. -/
namespace Go.Proofs.YtojefplapklbmaaGreatDoor
open Go.RowKit Go.Shelf Go.Maps

set_option maxRecDepth 100000 in
set_option maxHeartbeats 1000000 in
theorem spoiltB_nil (w : World) :
    Calls Tryz.prog 72 #[.slice none 0 0, .agg #[.int .i64 (-7), .int .i64 9, .int .i64 (-77), .string ⟨#[115, 112, 111, 105, 108, 116]⟩, .slice none 0 0]] w fun e W' => e = .returned (.tuple #[]) ∧ Below w.heap.size w W' := by
  obtain ⟨i0, hi, hz0, hz1, hz2⟩ := info_parts Tryz.info_bind
  have hB1 := (Below.refl _ w).alloc (Nat.le_refl _) (.cells #[.int .i64 (-7), .int .i64 9, .int .i64 (-77), .string ⟨#[115, 112, 111, 105, 108, 116]⟩, .slice none 0 0] 82)
  have hS : MkB (w.alloc (.cells #[.int .i64 (-7), .int .i64 9, .int .i64 (-77), .string ⟨#[115, 112, 111, 105, 108, 116]⟩, .slice none 0 0] 82)) w.heap.size := World.alloc_heap_new w _
  have HI := hide hi
  have HZ0 := hide hz0
  have HZ1 := hide hz1
  have HZ2 := hide hz2
  have HS := hide (And.intro hS hB1)
  clear hi hz0 hz1 hz2 hS hB1
  go_enter Tryz.func72, Tryz.ntmps72
  go_wp2_with fail
  go_loopw [12] (fun i wr => i = .int .i64 0 ∧ MkB wr w.heap.size ∧ Below w.heap.size w wr) (fun i _ => 0)
  case atStart => exact ⟨rfl, unhide HS⟩
  case round =>
    obtain ⟨rfl, hk, hb⟩ := hrel
    obtain ⟨c0, c1, c2, c3, c4⟩ := hk.cells
    have hbA : Below wr.heap.size wr (wr.alloc (.cells #[.int .i64 (-7), .int .i64 9, .int .i64 (-77), .string ⟨#[115, 112, 111, 105, 108, 116]⟩, .slice none 0 0, .int .i64 (-7), .int .i64 9, .int .i64 (-77), .string ⟨#[115, 112, 111, 105, 108, 116]⟩, .slice none 0 0, .int .i64 (-7), .int .i64 9, .int .i64 (-77), .string ⟨#[115, 112, 111, 105, 108, 116]⟩, .slice none 0 0] 82)) := (Below.refl _ wr).alloc (Nat.le_refl _) _
    have hown : (wr.alloc (.cells #[.int .i64 (-7), .int .i64 9, .int .i64 (-77), .string ⟨#[115, 112, 111, 105, 108, 116]⟩, .slice none 0 0, .int .i64 (-7), .int .i64 9, .int .i64 (-77), .string ⟨#[115, 112, 111, 105, 108, 116]⟩, .slice none 0 0, .int .i64 (-7), .int .i64 9, .int .i64 (-77), .string ⟨#[115, 112, 111, 105, 108, 116]⟩, .slice none 0 0] 82)).ownsRow 0 82 5 (.slice none 0 0) 0 [] := ⟨rfl, .inl ⟨rfl, rfl⟩⟩
    have HOWN := hide hown
    have HOB := hide (hb.trans (hbA.mono hb.size))
    clear hown hbA hk
    go_wp2_with (at_builtin; go_must (refine wpList_append_own_at _ rfl _ _ 32 rfl 0 82 i0 _ 5 64 Tryz.underlying32 (unhide HI) (unhide HZ0) (unhide HZ1) (unhide HZ2) rfl (by decide) (.slice none 0 0) 0 [] rfl (unhide HOWN) ⟨wr.heap.size, 0, none⟩ 3 3 m15 rfl rfl (m15_new wr) m15_one (by unfold maxLen; omega) (by omega) (Nat.zero_le _) ?_; intro v' W' hown' hgrow hnil' hbk'))
    exact bodyPost_end (v := .tuple #[]) (by simp [results, Tryz.results72, go_sem]) rfl ⟨rfl, (unhide HOB).trans ((grown_none hgrow).mono (unhide HOB).size)⟩

/-- Binds that may be spoilt: a whole block of them, each to a term that may be. -/
def CanB (n lo hi : Nat) (W : World) (a : Option Addr) (len cap : Nat) : Prop :=
  (a = none ∧ len = 0 ∧ cap = 0) ∨ ∃ b, a = some ⟨b, 0, none⟩ ∧ lo ≤ b ∧ RowK 82 5 W b cap ∧ len ≤ cap ∧ cap ≤ 9223372036854775807 ∧ len ≤ 4194304 ∧ ∀ j, j < len → ∃ t : Tm n, cellsAt W b (j * 5 + 1) t.tv ∧ WhT lo W t ∧ IsT W.heap.size W t ∧ Tidy hi t
theorem bind_no_term {W : World} {b cap : Nat} (h : RowK 82 5 W b cap) : ∀ c, ¬ Row4 W b c := by
  rintro c ⟨arr, h1, _⟩
  obtain ⟨arr', h2, _⟩ := h
  rw [h2] at h1
  simp at h1
theorem OnlyB.below {w W : World} {b lo : Nat} (h : OnlyB w b W) (hlo : lo ≤ b) (hs : lo ≤ w.heap.size) : Below lo w W :=
  ⟨h.os, h.tape, h.output, h.size, fun k hk => h.other k (by omega) (by omega)⟩
set_option maxRecDepth 100000 in
set_option maxHeartbeats 1000000 in
theorem spoilBinds_any (n lo hi : Nat) (W : World) (a : Option Addr) (len cap : Nat) (hlh : lo ≤ hi) (hhi : hi ≤ W.heap.size) (hc : CanB n lo hi W a len cap) :
    Calls Tryz.prog 29 #[.slice a len cap] W fun e W' => e = .returned (.tuple #[]) ∧ Below lo W W' := by
  have hend : ∀ wr, Spoils (fun b => lo ≤ b ∧ b < hi) W wr → ∀ W5, Below wr.heap.size wr W5 → Calls Tryz.prog 72 #[.slice a len cap, .agg #[.int .i64 (-7), .int .i64 9, .int .i64 (-77), .string ⟨#[115, 112, 111, 105, 108, 116]⟩, .slice none 0 0]] W5 fun e W' => e = .returned (.tuple #[]) ∧ Below lo W W' := fun wr sp W5 h5 => by
    have hb0 : Below lo W W5 := (sp.below (Nat.le_refl _) (by omega)).trans (h5.mono (by have := sp.size; omega))
    rcases hc with ⟨rfl, rfl, rfl⟩ | ⟨b, rfl, hlo, hr, hlc, hcap, hlen, _⟩
    · exact (spoiltB_nil W5).mono fun e W' h => ⟨h.1, hb0.trans (h.2.mono (by have := hb0.size; omega))⟩
    · have hr5 : RowK 82 5 W5 b cap := hr.kept ((h5.block b (by have := hr.lt; have := sp.size; omega)).trans (sp.kind b hr.lt (bind_no_term hr)))
      exact (spoiltB_row b len cap W5 hr5 hlc hcap hlen).mono fun e W' h => ⟨h.1, hb0.trans (h.2.below hlo (by have := hb0.size; omega))⟩
  have hstep : ∀ wr, Spoils (fun b => lo ≤ b ∧ b < hi) W wr → ∀ j, j < len → ∃ (b : Nat) (x : TV), a = some ⟨b, 0, none⟩ ∧ cellsAt wr b (j * 5 + 1) x ∧ Calls Tryz.prog 56 #[x.val] wr fun e W' => e = .returned (.tuple #[]) ∧ Spoils (fun b => lo ≤ b ∧ b < hi) W W' := fun wr sp j hj => by
    rcases hc with ⟨_, rfl, _⟩ | ⟨b, rfl, hlo, hr, hlc, hcap, hlen, hk⟩
    · omega
    · obtain ⟨t, h1, h2, h3, h4⟩ := hk j hj
      obtain ⟨t', e1, e2, e3, e4⟩ := WhT.spoilt sp h2 h3 h4
      refine ⟨b, t.tv, rfl, h1.kept (sp.kind b hr.lt (bind_no_term hr)), ?_⟩
      rw [← e1]
      exact (spoilTerm_any lo hi n t' wr hlh (by have := sp.size; omega) e2 e3 e4).mono fun e W' h => ⟨h.1, sp.trans h.2⟩
  have hlen : len ≤ 4194304 := by
    rcases hc with ⟨_, rfl, _⟩ | ⟨b, _, _, _, _, _, h, _⟩
    · omega
    · exact h
  have HE := hide hend
  have HST := hide hstep
  clear hend hstep hc
  go_enter Tryz.func29, Tryz.ntmps29
  go_wp2_with fail
  go_loopw [5] (fun i wr => ∃ j : Nat, j ≤ len ∧ i = .int .i64 j ∧ Spoils (fun b => lo ≤ b ∧ b < hi) W wr) (fun i _ => len - (intOf i).toNat)
  case atStart => exact ⟨0, Nat.zero_le _, rfl, Spoils.refl _ _⟩
  case round =>
    obtain ⟨j, hj, rfl, sp⟩ := hrel
    by_cases hlt : j < len
    · obtain ⟨b, x, rfl, ⟨c0, c1, c2, c3⟩, hcall⟩ := (unhide HST) wr sp j hlt
      simp only [TV.val] at hcall
      have hj1 : (j : Int) < len := by omega
      clear HST
      go_wp2_with fail
      refine hcall.mono ?_
      clear hcall
      rintro e W2 ⟨rfl, sp2⟩
      go_wp2_with fail
      go_roundw
      case rel => exact ⟨j + 1, by omega, by go_num, sp2⟩
      case measure => simp [intOf]; omega
    · obtain rfl : j = len := by omega
      have hj1 : ¬ (j : Int) < j := by omega
      have HE2 := hide ((unhide HE) wr sp)
      clear HE HST sp
      go_wp2_with fail
      refine (markTerm_any _).mono ?_
      rintro e W4 ⟨rfl, hW4⟩
      have hb4 : Below wr.heap.size wr W4 := (by rw [hW4]; exact (Below.refl _ wr).alloc (Nat.le_refl _) _)
      have hcall := HE2.out W4 hb4
      clear hW4 HE2
      simp only [markV, TV.val]
      go_wp2_with fail
      refine hcall.mono ?_
      clear hcall
      rintro e W6 ⟨rfl, hb6⟩
      go_wp2_with fail
      exact bodyPost_end (v := .tuple #[]) (by simp [results, Tryz.results29, go_sem]) rfl ⟨rfl, hb6⟩
end Go.Proofs.YtojefplapklbmaaGreatDoor

