import Derived.Test.YtcdgmjpgmiehcaaBbRs
import Derived.Test.YtcdgmjpgmiehcaaBbC
import Derived.Maps.AppendAt
import Derived.Test.YtcdgmjpgmiehcaaTs
/- grammar.isList, checkExtended, checkHead, haveBodies, checkPart. -/
namespace Go.Proofs.Ytcdgmjpgmiehcaa
open Go.RowKit Go.Shelf

set_option maxRecDepth 100000 in
set_option maxHeartbeats 4000000 in
theorem glist_any {n : Nat} (t : Tm n) (w : World) (hT : IsT w.heap.size w t) (ok : okT t = true) : Calls Try.prog 45 #[t.tv.val] w fun e W' => e = .returned (.bool (listT t)) ∧ Below w.heap.size w W' := by
  have HIS : Hid (∀ (V : World) (x : TV) (s : ByteArray) (m : Int), Calls Try.prog 20 #[.agg #[.int .i64 x.k, .int .i64 x.N, .string x.s, .slice x.a x.len x.cap], .string s, .int .i64 m] V fun e W' => e = .returned (.bool (isB x s.toList m)) ∧ Below V.heap.size V W') := hide fun V x s m => gis_any x s m V
  obtain ⟨W1, hW1⟩ : ∃ W1, w.alloc (.cells #[.int .i64 t.tv.k, .int .i64 t.tv.N, .string t.tv.s, .slice t.tv.a t.tv.len t.tv.cap] 24) = W1 := ⟨_, rfl⟩
  have b1 : BoxT W1 w.heap.size t.tv := by rw [← hW1]; exact BoxT.new w t.tv
  have g1 : Below w.heap.size w W1 := by rw [← hW1]; exact (Below.refl _ w).alloc (Nat.le_refl _) _
  have H0 := hide (And.intro b1 (And.intro g1 (hT.below g1)))
  have OK := hide ok
  clear b1 g1 hT ok
  simp only [TV.val]
  go_enter Try.func45, Try.ntmps45
  go_wp2_with fail
  try rw [hW1]
  clear hW1
  refine wp_loop_cps (fun R hR => ?_)
  have HR := hide hR
  clear hR
  have key : ∀ (n' : Nat) (u : Tm n') (V : World) (p3 p4 p5 p6 p7 p8 : Value), okT u = true → IsT w.heap.size V u → BoxT V w.heap.size u.tv → Below w.heap.size w V → listT u = listT t → R n' { tmps := #[.agg #[.int .i64 t.tv.k, .int .i64 t.tv.N, .string t.tv.s, .slice t.tv.a t.tv.len t.tv.cap], .pointer (some ⟨w.heap.size, 0, none⟩), .bool false, p3, p4, p5, p6, p7, p8, undef, undef], defers := [] } V := by
    intro n'
    induction n' with
    | zero => intro u; exact Empty.elim u
    | succ n' ih =>
      intro u V p3 p4 p5 p6 p7 p8 ok hT bT gV hl
      have HIH := hide ih
      clear ih
      obtain ⟨x, kids⟩ := u
      have bx : BoxT V w.heap.size x := bT
      have c0 := bx.c0
      have c1 := bx.c1
      have c2 := bx.c2
      have c3 := bx.c3
      rw [listT_succ] at hl
      cases hb : isB x [46] 2 with
      | false =>
        rw [hb] at hl
        have HL := hide hl
        have HG := hide (And.intro bx gV)
        clear hl bx gV hT bT HIH ok H0 OK
        refine (unhide HR) _ _ _ ?_
        go_wp2_with fail
        refine ((unhide HIS) V x _ _).mono ?_
        rintro e V1 ⟨rfl, h1⟩
        rw [ldo, hb]
        have bx1 := (unhide HG).1.below h1 (unhide HG).1.lt
        have gV1 := (unhide HG).2.trans (h1.mono (unhide HG).2.size)
        have HG1 := hide (And.intro bx1 gV1)
        have c0 := bx1.c0
        have c1 := bx1.c1
        have c2 := bx1.c2
        have c3 := bx1.c3
        clear bx1 gV1 h1 HG
        go_wp2_with fail
        refine ((unhide HIS) V1 x _ _).mono ?_
        rintro e V2 ⟨rfl, h2⟩
        rw [lni]
        have HE := hide ((unhide HG1).2.trans (h2.mono (unhide HG1).2.size))
        clear h2
        go_wp2_with fail
        all_goals go_ret
        all_goals exact ⟨by rw [← unhide HL]; rfl, unhide HE⟩
      | true =>
        rw [hb] at hl
        have hlen : x.len = 2 := by have := isB_len hb; omega
        obtain ⟨a, v, rfl⟩ := two_kids hT.wl hlen
        have hk := ok_kids ok
        have hT' := hT
        obtain ⟨_, _, _, h4⟩ := hT'
        rcases h4 with h4 | ⟨b, off, ha, hbn, hcs⟩
        · cases h4
        obtain ⟨⟨d0, d1, d2, d3⟩, hTv⟩ := hcs 1 v rfl
        obtain ⟨k, N, s, a', len, cap⟩ := x
        simp only at ha hlen c0 c1 c2 c3
        have ha' : a' = some ⟨b, off, none⟩ := ha
        subst ha' hlen
        have HG := hide (And.intro bx (And.intro gV (And.intro (hk.2 v (by simp)) (And.intro hTv hl))))
        have hbl : b ≠ w.heap.size := by omega
        clear bx gV hT bT ok hk H0 OK hl hTv hcs ha
        refine (unhide HR) _ _ _ ?_
        go_wp2_with fail
        refine ((unhide HIS) V ⟨k, N, s, some ⟨b, off, none⟩, 2, cap⟩ _ _).mono ?_
        rintro e V1 ⟨rfl, h1⟩
        rw [ldo, hb]
        have q0 := (h1.cell (p := ⟨b, off + 1 * 4, none⟩) (by have := (unhide HG).1.lt; show b < _; omega)).trans d0
        have q1 := (h1.cell (p := ⟨b, off + 1 * 4 + 1, none⟩) (by have := (unhide HG).1.lt; show b < _; omega)).trans d1
        have q2 := (h1.cell (p := ⟨b, off + 1 * 4 + 2, none⟩) (by have := (unhide HG).1.lt; show b < _; omega)).trans d2
        have q3 := (h1.cell (p := ⟨b, off + 1 * 4 + 3, none⟩) (by have := (unhide HG).1.lt; show b < _; omega)).trans d3
        have bx1 := (unhide HG).1.below h1 (unhide HG).1.lt
        have HG1 := hide (And.intro bx1 h1)
        have c0 := bx1.c0
        have c1 := bx1.c1
        have c2 := bx1.c2
        have c3 := bx1.c3
        simp only at c0 c1 c2 c3
        obtain ⟨f0, f1, f2, f3⟩ := bx1.frz
        clear bx1 h1 d0 d1 d2 d3
        go_wp2_with fail
        have gB := (unhide HG1).2.mono (show w.heap.size ≤ V.heap.size by have := (unhide HG).1.lt; omega)
        have hL : listT v = listT t := by simpa using (unhide HG).2.2.2.2
        exact (unhide HIH) v (set4 V1 w.heap.size 0 v.tv) _ _ _ _ _ _ (unhide HG).2.2.1 ((unhide HG).2.2.2.1.below (set4_below gB (Nat.le_refl _) 0 _)) (set4_box (unhide HG1).1 _) (set4_below ((unhide HG).2.1.trans gB) (Nat.le_refl _) 0 _) hL
  exact ⟨n, key n t W1 _ _ _ _ _ _ (unhide OK) (unhide H0).2.2 (unhide H0).1 (unhide H0).2.1 rfl⟩
set_option maxRecDepth 100000 in
set_option maxHeartbeats 4000000 in
theorem gext_any (x : TV) (w : World) (hl : x.len ≤ 50) : Calls Try.prog 32 #[x.val] w fun e W' => e = .returned (.int .i64 (extE x)) ∧ Below w.heap.size w W' := by
  have HRS : Hid (∀ V, Calls Try.prog 44 #[.string x.s, .int .i64 (x.len + 2)] V fun e W' => e = .returned (.bool (resB x.s.toList (x.len + 2))) ∧ Below V.heap.size V W') := hide fun V => bres_any x.s (x.len + 2) V
  obtain ⟨W1, hW1⟩ : ∃ W1, w.alloc (.cells #[.int .i64 x.k, .int .i64 x.N, .string x.s, .slice x.a x.len x.cap] 24) = W1 := ⟨_, rfl⟩
  have b1 : BoxT W1 w.heap.size x := by rw [← hW1]; exact BoxT.new w x
  have g1 : Below w.heap.size w W1 := by rw [← hW1]; exact (Below.refl _ w).alloc (Nat.le_refl _) _
  have c2 := b1.c2
  have c3 := b1.c3
  have HG := hide g1
  clear b1 g1
  simp only [TV.val]
  go_enter Try.func32, Try.ntmps32
  go_wp2_with fail
  try rw [hW1]
  go_wp2_with fail
  refine ((unhide HRS) W1).mono ?_
  rintro e V1 ⟨rfl, h1⟩
  have HG1 := hide ((unhide HG).trans (h1.mono (unhide HG).size))
  clear h1
  cases hr : resB x.s.toList (x.len + 2) with
  | true =>
    have HE : Hid (extE x = 7) := by show extE x = 7; unfold extE; rw [hr]; rfl
    go_wp2_with fail
    all_goals go_ret
    all_goals exact ⟨by rw [unhide HE]; rfl, unhide HG1⟩
  | false =>
    by_cases h50 : 50 < x.len + 2
    · have HE : Hid (extE x = 9) := by show extE x = 9; unfold extE; rw [hr, if_neg (by simp), if_pos h50]
      have h50' : (50 : Int) < (x.len : Int) + 2 := by omega
      go_wp2_with fail
      all_goals go_ret
      all_goals exact ⟨by rw [unhide HE]; rfl, unhide HG1⟩
    · have HE : Hid (extE x = 0) := by show extE x = 0; unfold extE; rw [hr, if_neg (by simp), if_neg h50]
      have h50' : ¬ (50 : Int) < (x.len : Int) + 2 := by omega
      go_wp2_with fail
      all_goals go_ret
      all_goals exact ⟨by rw [unhide HE]; rfl, unhide HG1⟩

/-- The error of a head. -/
def headE (x : TV) : Int := if x.k = 3 ∨ x.k = 4 then extE x else 7
set_option maxRecDepth 100000 in
set_option maxHeartbeats 4000000 in
theorem ghead_any (x : TV) (w : World) (hl : x.len ≤ 50) : Calls Try.prog 21 #[x.val] w fun e W' => e = .returned (.int .i64 (headE x)) ∧ Below w.heap.size w W' := by
  have HX : Hid (∀ V, Calls Try.prog 32 #[.agg #[.int .i64 x.k, .int .i64 x.N, .string x.s, .slice x.a x.len x.cap]] V fun e W' => e = .returned (.int .i64 (extE x)) ∧ Below V.heap.size V W') := hide fun V => gext_any x V hl
  obtain ⟨W1, hW1⟩ : ∃ W1, w.alloc (.cells #[.int .i64 x.k, .int .i64 x.N, .string x.s, .slice x.a x.len x.cap] 24) = W1 := ⟨_, rfl⟩
  have b1 : BoxT W1 w.heap.size x := by rw [← hW1]; exact BoxT.new w x
  have g1 : Below w.heap.size w W1 := by rw [← hW1]; exact (Below.refl _ w).alloc (Nat.le_refl _) _
  have c0 := b1.c0
  have c1 := b1.c1
  have c2 := b1.c2
  have c3 := b1.c3
  have HG := hide g1
  clear b1 g1
  obtain ⟨k, N, s, a, len, cap⟩ := x
  simp only [TV.val] at HX c0 c1 c2 c3 ⊢
  by_cases h3 : k = 3
  · subst h3
    have HE : Hid (headE ⟨3, N, s, a, len, cap⟩ = extE ⟨3, N, s, a, len, cap⟩) := rfl
    go_enter Try.func21, Try.ntmps21
    go_wp2_with fail
    try rw [hW1]
    go_wp2_with fail
    refine ((unhide HX) W1).mono ?_
    rintro e V1 ⟨rfl, h1⟩
    have HG1 := hide ((unhide HG).trans (h1.mono (unhide HG).size))
    clear h1
    go_wp2_with fail
    all_goals go_ret
    all_goals exact ⟨by rw [unhide HE]; rfl, unhide HG1⟩
  · by_cases h4 : k = 4
    · subst h4
      have HE : Hid (headE ⟨4, N, s, a, len, cap⟩ = extE ⟨4, N, s, a, len, cap⟩) := rfl
      go_enter Try.func21, Try.ntmps21
      go_wp2_with fail
      try rw [hW1]
      go_wp2_with fail
      refine ((unhide HX) W1).mono ?_
      rintro e V1 ⟨rfl, h1⟩
      have HG1 := hide ((unhide HG).trans (h1.mono (unhide HG).size))
      clear h1
      go_wp2_with fail
      all_goals go_ret
      all_goals exact ⟨by rw [unhide HE]; rfl, unhide HG1⟩
    · have HE : Hid (headE ⟨k, N, s, a, len, cap⟩ = 7) := if_neg (show ¬ (k = 3 ∨ k = 4) by omega)
      have h3' : (k != 3) = true := by simp [h3]
      have h4' : (k != 4) = true := by simp [h4]
      clear h3 h4
      go_enter Try.func21, Try.ntmps21
      go_wp2_with fail
      try rw [hW1]
      go_wp2_with fail
      all_goals go_ret
      all_goals exact ⟨by rw [unhide HE]; rfl, unhide HG⟩
end Go.Proofs.Ytcdgmjpgmiehcaa

/- Rows of the call's own that are taken from at their end: each entry has so many cells. -/
namespace Go.Proofs.Ytcdgmjpgmiehcaa
open Go.RowKit Go.Shelf

def StkW (k w B : Nat) (W : World) (v : Value) (S : List (List Value)) : Prop := (∀ r ∈ S, r.length = w) ∧ W.ownsRow B k w v S.length S.flatten
theorem flat_len {w : Nat} : ∀ {S : List (List Value)}, (∀ r ∈ S, r.length = w) → S.flatten.length = S.length * w
  | [], _ => by simp
  | a :: S, h => by
    have h1 := flat_len (S := S) fun r hr => h r (by simp [hr])
    have h2 := h a (by simp)
    rw [List.flatten_cons, List.length_append, List.length_cons, h1, h2, Nat.add_mul]
    omega
theorem StkW.slice {k w B : Nat} {W : World} {v : Value} {S : List (List Value)} {e : List Value} (h : StkW k w B W v (S ++ [e])) : ∃ g cap cur, v = .slice (some ⟨g, 0, none⟩) (S.length + 1) cap ∧ B ≤ g ∧ g < W.heap.size ∧ S.length + 1 ≤ cap ∧ cap ≤ maxLen ∧ W.heap[g]? = some (.cells cur k (0, 0)) := by
  obtain ⟨_, _, h2⟩ := h
  rw [List.length_append, List.length_cons, List.length_nil] at h2
  rcases h2 with ⟨_, h0⟩ | ⟨g, cap, cur, h3, h4, h5, h6, h7, h8⟩
  · omega
  · exact ⟨g, cap, cur, h3, h4, (Array.getElem?_eq_some_iff.1 h5).1, h6, h7, h5⟩
theorem StkW.pop {k w B g cap : Nat} {W : World} {S : List (List Value)} {e : List Value} (h : StkW k w B W (.slice (some ⟨g, 0, none⟩) (S.length + 1) cap) (S ++ [e])) : StkW k w B W (.slice (some ⟨g, 0, none⟩) S.length cap) S := by
  obtain ⟨h0, h1, h2⟩ := h
  have h0' : ∀ r ∈ S, r.length = w := fun r hr => h0 r (List.mem_append_left _ hr)
  refine ⟨h0', flat_len h0', ?_⟩
  rw [List.length_append, List.length_cons, List.length_nil] at h2
  rcases h2 with ⟨h2, _⟩ | ⟨g', cap', cur, h2, h3, h4, h5, h6, h7, h8⟩
  · cases h2
  · simp only [Value.slice.injEq, Option.some.injEq, Addr.mk.injEq, and_true, true_and] at h2
    obtain ⟨rfl, rfl⟩ := h2
    refine .inr ⟨g, cap, cur, rfl, h3, h4, by omega, h6, h7, ?_⟩
    have := congrArg (List.take (S.length * w)) h8
    rw [List.take_take, Nat.min_eq_left (Nat.mul_le_mul_right _ (by omega)), List.flatten_append, List.take_left' (flat_len h0')] at this
    exact this
theorem StkW.top {k w B g cap : Nat} {W : World} {S : List (List Value)} {e : List Value} (h : StkW k w B W (.slice (some ⟨g, 0, none⟩) (S.length + 1) cap) (S ++ [e])) {j : Nat} {u : Value} (hu : e[j]? = some u) : W.cell? ⟨g, S.length * w + j, none⟩ = some u := by
  have h0' : ∀ r ∈ S, r.length = w := fun r hr => h.1 r (List.mem_append_left _ hr)
  have he : e.length = w := h.1 e (by simp)
  have hj : j < e.length := (List.getElem?_eq_some_iff.1 hu).1
  have h2 := h.2
  rw [List.length_append, List.length_cons, List.length_nil] at h2
  have h1 := World.ownsRow.cellAt h2 (S.length * w + j) (by rw [Nat.add_mul]; omega)
  rw [h1, List.flatten_append, List.getElem?_append_right (by rw [flat_len h0']; omega), flat_len h0', Nat.add_sub_cancel_left]
  simpa using hu
theorem StkW.kept {k w B : Nat} {W W' : World} {v : Value} {S : List (List Value)} (h : StkW k w B W v S) (hk : ∀ g, v.ownBlock = some g → W'.heap[g]? = W.heap[g]?) : StkW k w B W' v S := by
  obtain ⟨h0, h1, h2⟩ := h
  refine ⟨h0, h1, ?_⟩
  rcases h2 with h2 | ⟨g, cap, cur, h2, h3, h4, h5⟩
  · exact .inl h2
  · exact .inr ⟨g, cap, cur, h2, h3, (hk g (by rw [h2]; rfl)).trans h4, h5⟩
theorem StkW.lt {k w B : Nat} {W : World} {v : Value} {S : List (List Value)} (h : StkW k w B W v S) {g : Nat} (hg : v.ownBlock = some g) : B ≤ g ∧ g < W.heap.size ∧ ∃ cur, W.heap[g]? = some (.cells cur k (0, 0)) := by
  obtain ⟨_, _, h2⟩ := h
  rcases h2 with ⟨h2, _⟩ | ⟨g', cap, cur, h2, h3, h4, _⟩
  · rw [h2] at hg; cases hg
  · rw [h2] at hg
    have : g' = g := by simpa [Value.ownBlock] using hg
    subst this
    exact ⟨h3, (Array.getElem?_eq_some_iff.1 h4).1, cur, h4⟩
theorem StkW.below {k w B : Nat} {W W' : World} {v : Value} {S : List (List Value)} (h : StkW k w B W v S) (hb : Below W.heap.size W W') : StkW k w B W' v S := h.kept fun g hg => hb.block g (h.lt hg).2.1
theorem StkW.one {k w B : Nat} {W : World} {arr : Array Value} {e : List Value} (he : e.length = w) (ha : arr.toList = e) (hB : B ≤ W.heap.size) : StkW k w B (W.alloc (.cells arr k)) (.slice (some ⟨W.heap.size, 0, none⟩) 1 1) [e] := by
  refine ⟨fun r hr => by simp at hr; rw [hr]; exact he, by simp [he], .inr ⟨W.heap.size, 1, arr, rfl, hB, World.alloc_heap_new W _, Nat.le_refl _, by unfold maxLen; omega, ?_, ?_⟩⟩
  · rw [← Array.length_toList, ha, he]; omega
  · rw [ha, List.take_of_length_le (by simp; omega)]; simp
/-- More is laid at the end. -/
theorem StkW.push {k T ty : TypeId} {i : TypeInfo} {z : Value} {w bytes B h : Nat} {W : World} {v : Value} {S : List (List Value)} (hs : StkW k w B W v S) (hu : Try.prog.underlying T = some (.slice k)) (hi : Try.prog.info? k = some i) (hz : i.zero = some z) (hsz : i.size = w) (hby : i.bytes = bytes) (hzs : z.cells.size = w) (hw : 0 < w)
    (E : List (List Value)) (arr : Array Value) (ha : arr.toList = E.flatten) (hE : ∀ r ∈ E, r.length = w) (h1 : ∀ u ∈ E.flatten, u.oneCell' = true) (hh : W.heap.size = h) (hl : (S.length + E.length) * bytes ≤ 140737488355328) (hm : S.length + E.length ≤ 140737488355328) (hB : B ≤ W.heap.size) :
    ∃ v' X, (Builtin.append_ #[T, T] ty #[v, .slice (some ⟨h, 0, none⟩) E.length E.length]).run Try.prog (W.alloc (.cells arr k)) = .ok v' X ∧ StkW k w B X v' (S ++ E) ∧ (W.alloc (.cells arr k)).grownBy X v.ownBlock ∧ (v'.ownBlock = v.ownBlock ∨ v'.ownBlock = some (h + 1)) := by
  have hn := World.alloc_heap_new W (.cells arr k)
  rw [hh] at hn
  have hs' : StkW k w B (W.alloc (.cells arr k)) v S := hs.below ((Below.refl _ W).alloc (Nat.le_refl _) _)
  obtain ⟨v', X, r1, r2, r3, _, r5⟩ := run_append_own_at (P := Try.prog) (W.alloc (.cells arr k)) B T ty k i z w bytes hu hi hz hsz hby hzs hw v S.length S.flatten hs'.2 ⟨h, 0, none⟩ E.length E.length E.flatten (flat_len hE) (fun j u hu => by
    rw [← ha] at hu
    have : arr[j]? = some u := by simpa using hu
    cases j with
    | zero => simp [World.cell?, Addr.add, hn, this]
    | succ j => simp [World.cell?, Addr.add, hn, this]) h1 (by unfold maxLen; omega) hl (by simp; omega)
  rw [World.size_alloc, hh] at r5
  refine ⟨v', X, r1, ⟨fun r hr => ?_, ?_⟩, r3, r5⟩
  · rcases List.mem_append.1 hr with hr | hr
    · exact hs.1 r hr
    · exact hE r hr
  · rw [List.length_append, List.flatten_append]
    exact r2
end Go.Proofs.Ytcdgmjpgmiehcaa

/- base.Body. -/
namespace Go.Proofs.Ytcdgmjpgmiehcaa
open Go.RowKit Go.Shelf

theorem stands_holds {n b o : Nat} {L : List Nat} {sz : Nat} {W' : World} {c : List Nd} {lo : Nat} (h : StandsB n b o L sz W' c) (hL : ∀ k ∈ L, lo ≤ k) (hsz : lo ≤ sz) : ∃ y : TV, cellsAt W' b o y ∧ HoldsS (n + 1) (lo ≤ ·) W' y.val c := by
  obtain ⟨t', h1, h2, _, _, h5, h6⟩ := h
  refine ⟨t'.tv, h1, ?_⟩
  rw [← h5]
  exact holdsS_of h2 (blk_of h2 fun k hk => by
    rcases h6 k hk with h | h
    · exact hL k h
    · exact Nat.le_trans hsz h)
theorem holdsS_set4 {D lo : Nat} {W : World} {v : Value} {c : List Nd} (h : HoldsS D (lo ≤ ·) W v c) {b : Nat} (hb : b < lo) (o : Nat) (x : TV) : HoldsS D (lo ≤ ·) (set4 W b o x) v c :=
  h.fromS (fun k hk _ => set4_other W b o x (by have : lo ≤ k := hk; omega)) (by rw [set4_size]; exact Nat.le_refl _)
theorem isL_nil (m : Nat) (W : World) (n : Nat) : IsL m W none 0 ([] : List (Int × Tm n)) := by
  refine ⟨rfl, by omega, ?_⟩
  exact .inl rfl
/-- To apply nothing is to copy. -/
theorem apply_nil {n : Nat} (t : Tm n) (w : World) (hT : IsT w.heap.size w t) (hok : okT t = true) :
    Calls Try.prog 58 #[t.tv.val, .slice none 0 0] w fun e W' => ∃ x : TV, e = .returned (.tuple #[x.val, .int .i64 0]) ∧ Below w.heap.size w W' ∧ HoldsT (n + (n + 1)) w.heap.size W' x.val (code t) := by
  have h := apply_ok t ([] : List (Int × Tm n)) none 0 0 w hT (isL_nil _ _ _) hok (fun p hp => by cases hp) ⟨(fun p hp => by cases hp), (fun i j p q h => by simp at h)⟩
  have e : (code t).flatMap (subN (lookC (cb ([] : List (Int × Tm n))))) = code t := sub_var hok
  rw [e] at h
  exact h
set_option maxRecDepth 100000 in
set_option maxHeartbeats 2000000 in
theorem body_bad {n : Nat} (t : Tm n) (W : World) (hT : IsT W.heap.size W t) (hok : okT t = false) :
    Calls Try.prog 57 #[t.tv.val] W fun e W' => e = .returned (.tuple #[noTerm.val, .int .i64 2]) ∧ Below W.heap.size W W' := by
  have HA : Hid (∀ V, Below W.heap.size W V → Calls Try.prog 58 #[t.tv.val, .slice none 0 0] V fun e W' => e = .returned (.tuple #[.agg #[.int .i64 0, .int .i64 0, .string ⟨#[]⟩, .slice none 0 0], .int .i64 2]) ∧ Below V.heap.size V W') := fun V hV => apply_bad t none 0 0 V ((hT.below hV).mono hV.size) hok
  have hH := Head.new W t.tv
  have ha := HA.out _ hH.below
  clear hT hok HA
  simp only [TV.val, noTerm] at ha ⊢
  go_enter Try.func57, Try.ntmps57
  go_wp2_with fail
  refine ha.mono ?_
  clear ha
  rintro e W1 ⟨rfl, hb1⟩
  replace hH := (hH.next hb1).next ((Below.refl _ W1).alloc (o := .cells #[.int .i64 0, .int .i64 0, .string ⟨#[]⟩, .slice none 0 0] 24) (Nat.le_refl _))
  obtain ⟨⟨z0, z1, z2, z3⟩, y0, y1, y2, y3⟩ := zbox_kept hH.bz
  have HH := hide hH
  clear hH hb1
  go_wp2_with fail
  exact bodyPost_ret (v := .tuple #[.agg #[.int .i64 0, .int .i64 0, .string ⟨#[]⟩, .slice none 0 0], .int .i64 2]) (by simp [results, Try.results57, go_sem, z0, z1, z2, z3]) rfl ⟨rfl, set4_below (unhide HH).below (by omega) 0 ⟨0, 0, ⟨#[]⟩, none, 0, 0⟩⟩
set_option maxRecDepth 100000 in
set_option maxHeartbeats 2000000 in
theorem body_ok {n : Nat} (t : Tm n) (W : World) (hT : IsT W.heap.size W t) (hok : okT t = true) (hn40 : n ≤ 549755813888 := by omega) :
    Calls Try.prog 57 #[t.tv.val] W fun e W' => (∃ x : TV, e = .returned (.tuple #[x.val, .int .i64 (if (bodyC t).isSome = true then 0 else 7)]) ∧ HoldsS (n + (n + 1) + 1) (W.heap.size ≤ ·) W' x.val (orNo (bodyC t))) ∧ Below W.heap.size W W' := by
  have HA : Hid (∀ V, Below W.heap.size W V → Calls Try.prog 58 #[t.tv.val, .slice none 0 0] V fun e W' => ∃ x : TV, e = .returned (.tuple #[x.val, .int .i64 0]) ∧ Below V.heap.size V W' ∧ HoldsT (n + (n + 1)) V.heap.size W' x.val (code t)) := fun V hV => apply_nil t V ((hT.below hV).mono hV.size) hok
  have hH := Head.new W t.tv
  have ha := HA.out _ hH.below
  have HB : Hid (∀ {m : Nat} (o : Tm m), Wl o → code o = code t → bodyC o = bodyC t ∧ okT o = true) := fun o ho hc => ⟨body_copy hT.wl hok ho hc, by rw [okT_m, hc, ← okT_m]; exact hok⟩
  clear hT hok HA
  generalize bodyC t = r at HB ⊢
  simp only [TV.val] at ha ⊢
  go_enter Try.func57, Try.ntmps57
  go_wp2_with fail
  refine ha.mono ?_
  clear ha
  rintro e W1 ⟨x, rfl, hb1, hx⟩
  rw [show ((W.alloc (.cells #[.int .i64 t.tv.k, .int .i64 t.tv.N, .string t.tv.s, .slice t.tv.a t.tv.len t.tv.cap] 24)).alloc (.cells #[.int .i64 0, .int .i64 0, .string ⟨#[]⟩, .slice none 0 0] 24)).heap.size = W.heap.size + 2 by simp] at hx
  replace hH := hH.next hb1
  have hlt := hH.lt
  obtain ⟨o, ho, hoT', hoN, hoc⟩ := hx _ (Nat.le_refl _)
  have hoT := hoT' (by omega)
  clear hoT'
  obtain rfl := tv_inj ho
  obtain ⟨hbo, hok⟩ := HB.out o hoT.wl hoc
  clear hx ho HB hoc hb1
  have hb2 : Below W1.heap.size W1 (W1.alloc (.cells #[.int .i64 o.tv.k, .int .i64 o.tv.N, .string o.tv.s, .slice o.tv.a o.tv.len o.tv.cap] 24)) := (Below.refl _ W1).alloc (Nat.le_refl _) _
  have hbx := BoxT.new W1 o.tv
  have hL : ∀ k ∈ blks o, W.heap.size + 2 ≤ k ∧ k < W1.heap.size := fun k hk => ⟨(hoN.wh.blks_in k hk).1, (hoN.wh.blks_in k hk).2.1⟩
  have hmb := makeBody_any _ o W1.heap.size 0 (W1.alloc (.cells #[.int .i64 o.tv.k, .int .i64 o.tv.N, .string o.tv.s, .slice o.tv.a o.tv.len o.tv.cap] 24)) hok ⟨hbx.c0, hbx.c1, hbx.c2, hbx.c3⟩ ⟨_, _, hbx, by simp⟩ ((hoT.below hb2).mono hb2.size) ((hoN.below hb2).wh.rows hoT.wl) hoN.ap (fun hm => by have := (hL _ hm).2; omega)
  rw [hbo] at hmb
  replace hH := hH.next hb2
  have HH := hide hH
  have HL := hide hL
  have HS : Hid (W1.heap.size + 1 = (W1.alloc (.cells #[.int .i64 o.tv.k, .int .i64 o.tv.N, .string o.tv.s, .slice o.tv.a o.tv.len o.tv.cap] 24)).heap.size) := by show _ = _; simp
  have HLT := hide hlt
  clear hH hL hoT hoN hok hbo hb2 hbx hlt
  go_wp2_with fail
  refine hmb.mono ?_
  clear hmb
  rintro e W3 ⟨rfl, hm3⟩
  obtain ⟨ht3, hs3⟩ := hm3
  have hs := ht3.gr.size
  have hBW : Below W.heap.size W W3 := (unhide HH).below.trans (ht3.gr.below (n₀ := W.heap.size) (fun k hk => by
    rcases hk with rfl | hk
    · have := unhide HLT; omega
    · have := (unhide HL k hk).1; omega) (by have := (unhide HH).below.size; omega))
  have hz3 := (ht3.gr.block (W.heap.size + 1) (unhide HH).lt (by
    rintro (h | h)
    · have := unhide HLT; omega
    · have := (unhide HL _ h).1; omega)).trans (unhide HH).bz
  obtain ⟨⟨z0, z1, z2, z3⟩, y0, y1, y2, y3⟩ := zbox_kept hz3
  cases r with
  | none =>
    have HF : Hid (Below W.heap.size W (set4 W3 (W.heap.size + 1) 0 noTerm)) := set4_below hBW (by omega) 0 _
    clear hBW hz3 HH HL ht3 hs3 HS HLT hs
    simp only [Option.isSome_none]
    go_wp2_with fail
    exact bodyPost_ret (v := .tuple #[noTerm.val, .int .i64 7]) (by simp [results, Try.results57, go_sem, TV.val, noTerm, z0, z1, z2, z3]) rfl ⟨⟨noTerm, rfl, (no_holds _ _ (by omega) _).holdsS⟩, HF.out⟩
  | some c =>
    obtain ⟨y, hy, hyS⟩ := stands_holds (lo := W.heap.size + 2) (hs3 c rfl) (fun k hk => (unhide HL k hk).1) (by have := HS.out; have := unhide HLT; omega)
    obtain ⟨c0, c1, c2, c3⟩ := hy
    have HF : Hid (Below W.heap.size W (set4 W3 (W.heap.size + 1) 0 y) ∧ HoldsS (n + (n + 1) + 1) (W.heap.size ≤ ·) (set4 W3 (W.heap.size + 1) 0 y) y.val c) := ⟨set4_below hBW (by omega) 0 _, (holdsS_set4 hyS (by omega) 0 y).mono (Nat.le_refl _) (fun k hk => by have : W.heap.size + 2 ≤ k := hk; show W.heap.size ≤ k; omega)⟩
    clear hBW hz3 HH HL ht3 hs3 HS hyS hs HLT
    simp only [Option.isSome_some]
    go_wp2_with fail
    exact bodyPost_ret (v := .tuple #[y.val, .int .i64 0]) (by simp [results, Try.results57, go_sem, TV.val, z0, z1, z2, z3]) rfl ⟨⟨y, rfl, HF.out.2⟩, HF.out.1⟩
/-- base.Body, whatever it is asked. -/
theorem body_any {n : Nat} (t : Tm n) (ns : Nat) (W : World) (hT : IsT ns W t) (hns : ns ≤ W.heap.size) (hn38 : n ≤ 274877906944 := by omega) :
    Calls Try.prog 57 #[t.tv.val] W fun e W' => TAns (2 * n + 8) ns W.heap.size (bodyR t).1 (bodyR t).2 e W' ∧ Below W.heap.size W W' := by
  unfold bodyR
  cases hok : okT t with
  | false =>
    refine (body_bad t W (hT.mono hns) hok).mono fun e W' h => ⟨?_, h.2⟩
    rw [if_neg (by simp)]
    exact ⟨⟨1, by omega⟩, noTerm, h.1, no_shared 1 _ _ (by omega) W'⟩
  | true =>
    refine (body_ok t W (hT.mono hns) hok).mono fun e W' h => ⟨?_, h.2⟩
    rw [if_pos rfl]
    obtain ⟨x, h1, h2⟩ := h.1
    exact ⟨⟨_, by omega⟩, x, h1, h2.mono (Nat.le_refl _) fun _ h => .inr h⟩
end Go.Proofs.Ytcdgmjpgmiehcaa

