import Derived.Test.YtjdanfhbccpnpaaDoorBaG
import Derived.Test.YtjdanfhbccpnpaaDoorXs
/- What BaseMakes' two sides answer. -/
namespace Go.Proofs.YtjdanfhbccpnpaaDoor
open Go.RowKit Go.Shelf

def TAns (k ns lo : Nat) (err : Int) (c : List Nd) (e : Ending) (W' : World) : Prop := ∃ (D : Upto k) (x : TV), e = .returned (.tuple #[x.val, .int .i64 err]) ∧ HoldsS D.1 (Mix ns lo) W' x.val c
def CAns (k ns lo : Nat) (err : Int) (h b : List Nd) (e : Ending) (W' : World) : Prop := ∃ (D : Upto k) (x y : TV), e = .returned (.tuple #[clV x y, .int .i64 err]) ∧ HoldsS D.1 (Mix ns lo) W' x.val h ∧ HoldsS D.1 (Mix ns lo) W' y.val b
def TYes (k ns lo : Nat) (ok : Bool) (c : List Nd) (e : Ending) (W' : World) : Prop := ∃ (D : Upto k) (x : TV), e = .returned (.tuple #[x.val, .bool ok]) ∧ HoldsS D.1 (Mix ns lo) W' x.val c
def CYes (k ns lo : Nat) (ok : Bool) (h b : List Nd) (e : Ending) (W' : World) : Prop := ∃ (D : Upto k) (x y : TV), e = .returned (.tuple #[clV x y, .bool ok]) ∧ HoldsS D.1 (Mix ns lo) W' x.val h ∧ HoldsS D.1 (Mix ns lo) W' y.val b
theorem no_shared (D ns lo : Nat) (hD : 1 ≤ D) (W : World) : HoldsS D (Mix ns lo) W noTerm.val noC := (no_holds D lo hD W).shared fun _ h => .inr h
def orNo : Option (List Nd) → List Nd
  | some c => c
  | none => noC
def orNo2 : Option (List Nd × List Nd) → List Nd × List Nd
  | some c => c
  | none => (noC, noC)
/-- Body, Make, Plain: the error and the answer (the zero term where there is none). -/
def bodyR {n : Nat} (t : Tm n) : Int × List Nd := if okT t = true then (if (bodyC t).isSome = true then 0 else 7, orNo (bodyC t)) else (2, noC)
def makeR {n : Nat} (t : Tm (n + 1)) : Int × List Nd × List Nd := if okT t = true then (if (makeC t).isSome = true then 0 else 7, orNo2 (makeC t)) else (2, noC, noC)
def plainR {n : Nat} (th tb : Tm (n + 1)) : Int × List Nd :=
  if okT th = true ∧ okT tb = true then
    (if isB tb.tv trueL 0 = true then (if plainE (makeC th.lift) (code th) (code tb) = 0 then (0, code th) else (7, noC))
     else (if plainE (makeJ (headBad th.tv) (code th) (bodyC tb)) (code th) (code tb) = 0 then (0, (4, 0, [58, 45], 2) :: (code th ++ code tb)) else (7, noC)))
  else (2, noC)
theorem plainE_two (r : Option (List Nd × List Nd)) (h b : List Nd) : plainE r h b = 0 ∨ plainE r h b = 7 := by
  unfold plainE
  split
  · split
    · exact .inl rfl
    · exact .inr rfl
  · exact .inr rfl
theorem psays_ans {D ns lo : Nat} {k : Nat} (hD : 1 ≤ D) (hD2 : D ≤ k) {err : Int} {c : List Nd} {e : Ending} {W' : World} (h : PSays D ns lo err c e W') (he : err = 0 ∨ err = 7) : TAns k ns lo (if err = 0 then (0, c) else (7, noC) : Int × List Nd).1 (if err = 0 then (0, c) else (7, noC) : Int × List Nd).2 e W' := by
  obtain ⟨x, h1, h2, h3⟩ := h
  rcases he with rfl | rfl
  · rw [if_pos rfl]
    exact ⟨⟨D, hD2⟩, x, h1, h2 rfl⟩
  · rw [if_neg (by omega)]
    obtain rfl := h3 (by omega)
    exact ⟨⟨D, hD2⟩, noTerm, h1, no_shared D ns lo hD W'⟩
theorem rplain_r {n : Nat} (th tb : Tm (n + 1)) (m : Int) (W : World) (hTH : IsT W.heap.size W th) (hTB : IsT W.heap.size W tb) (hl : 2 * ((code th).length + (code tb).length + 1) ≤ 4194304) (hm : W.cell? ⟨splitLay_ren.g 1, 0, none⟩ = some (.int .i64 m)) (hm0 : splitLay_ren.g 1 < W.heap.size) (hn38 : n ≤ 274877906944 := by omega) :
    Calls Tryd.prog 9 #[clV th.tv tb.tv] W fun e W' => TAns (2 * n + 8) W.heap.size W.heap.size (plainR th tb).1 (plainR th tb).2 e W' ∧ Below W.heap.size W W' := by
  unfold plainR
  cases okh : okT th with
  | false =>
    rw [if_neg (by simp)]
    refine (rplain_bad1 th tb W hTH okh).mono fun e W' h => ⟨?_, h.2⟩
    obtain ⟨x, h1, -, h3⟩ := h.1
    obtain rfl := h3 (by omega)
    exact ⟨⟨1, by omega⟩, noTerm, h1, no_shared 1 _ _ (by omega) W'⟩
  | true =>
    cases okb : okT tb with
    | false =>
      rw [if_neg (by simp)]
      refine (rplain_bad2 th tb W hTH hTB okh okb).mono fun e W' h => ⟨?_, h.2⟩
      obtain ⟨x, h1, -, h3⟩ := h.1
      obtain rfl := h3 (by omega)
      exact ⟨⟨1, by omega⟩, noTerm, h1, no_shared 1 _ _ (by omega) W'⟩
    | true =>
      rw [if_pos ⟨rfl, rfl⟩]
      cases hi : isB tb.tv trueL 0 with
      | true =>
        rw [if_pos rfl]
        refine (rplain_true th tb m W hTH hTB okh okb hi (by omega) hm hm0).mono fun e W' h => ⟨?_, h.2⟩
        have h1 := psays_ans (k := 2 * n + 8) (by omega) (by omega) h.1 (plainE_two _ _ _)
        rw [lift_code] at h1
        exact h1
      | false =>
        rw [if_neg (by simp)]
        exact (rplain_rule th tb m W hTH hTB okh okb hi hl hm hm0).mono fun e W' h => ⟨psays_ans (k := 2 * n + 8) (by omega) (by omega) h.1 (plainE_two _ _ _), h.2⟩
theorem rbody_r {n : Nat} (t : Tm n) (ns : Nat) (W : World) (hT : IsT ns W t) (hns : ns ≤ W.heap.size) (hok : okT t = true) (hn38 : n ≤ 274877906944 := by omega) :
    Calls Tryd.prog 13 #[t.tv.val] W fun e W' => TYes (2 * n + 8) ns W.heap.size (decide ((bodyR t).1 = 0)) (bodyR t).2 e W' ∧ Below W.heap.size W W' := by
  refine (rbody_any t ns W hT hns hok).mono fun e W' h => ⟨?_, h.2⟩
  obtain ⟨x, h1, h2⟩ := h.1
  unfold bodyR
  rw [if_pos hok]
  cases hb : bodyC t with
  | none =>
    rw [hb] at h1 h2
    obtain rfl := h2
    exact ⟨⟨1, by omega⟩, noTerm, h1, no_shared 1 _ _ (by omega) W'⟩
  | some c =>
    rw [hb] at h1 h2
    exact ⟨⟨n + 1, by omega⟩, x, h1, h2⟩
theorem rmake_r {n : Nat} (t : Tm (n + 1)) (m : Int) (W : World) (hT : IsT W.heap.size W t) (hok : okT t = true) (hl : 2 * (code t).length ≤ 4194304) (hm : W.cell? ⟨splitLay_ren.g 1, 0, none⟩ = some (.int .i64 m)) (hm0 : splitLay_ren.g 1 < W.heap.size) (hn38 : n ≤ 274877906944 := by omega) :
    Calls Tryd.prog 14 #[t.tv.val] W fun e W' => CYes (2 * n + 8) 0 W.heap.size (decide ((makeR t).1 = 0)) (makeR t).2.1 (makeR t).2.2 e W' ∧ Below W.heap.size W W' := by
  refine (rmake_any t m W hT hok hl hm hm0).mono fun e W' h => ⟨?_, h.2⟩
  obtain ⟨x, y, h1, h2⟩ := h.1
  unfold makeR
  rw [if_pos hok]
  cases hb : makeC t with
  | none =>
    rw [hb] at h1 h2
    obtain ⟨rfl, rfl⟩ := h2
    exact ⟨⟨1, by omega⟩, noTerm, noTerm, h1, no_shared 1 _ _ (by omega) W', no_shared 1 _ _ (by omega) W'⟩
  | some c =>
    rw [hb] at h1 h2
    obtain ⟨c1, c2⟩ := c
    exact ⟨⟨n + 3, by omega⟩, x, y, h1, h2.1, h2.2⟩
theorem none_ans {D ns lo : Nat} {W : World} {x : TV} (h : HoldsS D (Mix ns lo) W x.val noC) (w : World) (hD : D + 1 ≤ 2199023255552 := by first | omega | exact upto_one _ (by omega)) : Calls Tryd.prog 12 #[x.val] w fun e W' => e = .returned (.bool true) ∧ Below w.heap.size w W' := by
  obtain ⟨t, h1, h2, -, h4⟩ := h (D + 1) (by omega) hD
  have hx := tv_inj h1
  have hn : x.nd = (0, 0, [], 0) := by
    obtain ⟨y, kids⟩ := t
    rw [code_succ] at h4
    have : y.nd = (0, 0, [], 0) := by
      unfold noC at h4
      simp only [List.cons.injEq] at h4
      exact h4.1
    rw [hx]
    exact this
  simp only [TV.nd, Prod.mk.injEq] at hn
  have hh := none_any x w
  rw [hn.1, hn.2.1, hn.2.2.1, hn.2.2.2] at hh
  exact hh
end Go.Proofs.YtjdanfhbccpnpaaDoor

/- The law BaseMakes. -/
namespace Go.Proofs.YtjdanfhbccpnpaaDoor
open Go.RowKit Go.Shelf

theorem box_law (W : World) (t x y : TV) : ∃ W2, (W.alloc (.cells #[.int .i64 t.k, .int .i64 t.N, .string t.s, .slice t.a t.len t.cap] 24)).alloc (.cells #[.int .i64 x.k, .int .i64 x.N, .string x.s, .slice x.a x.len x.cap, .int .i64 y.k, .int .i64 y.N, .string y.s, .slice y.a y.len y.cap] 26) = W2 ∧ Below W.heap.size W W2 ∧ W.heap.size + 2 ≤ W2.heap.size ∧ BoxT W2 W.heap.size t ∧ BoxC W2 (W.heap.size + 1) x y := by
  refine ⟨_, rfl, ((Below.refl _ W).alloc (Nat.le_refl _) _).alloc (by simp) _, by simp, (BoxT.new W t).alloc _, ?_⟩
  have h := BoxC.new (W.alloc (.cells #[.int .i64 t.k, .int .i64 t.N, .string t.s, .slice t.a t.len t.cap] 24)) x y
  rw [World.size_alloc] at h
  exact h
theorem law_errs {n : Nat} (t : Tm (n + 1)) : (okT t = false → bodyR t = (2, noC) ∧ makeR t = (2, noC, noC)) ∧ (okT t = true → ((bodyR t).1 = 0 ∨ (bodyR t).1 = 7) ∧ ((makeR t).1 = 0 ∨ (makeR t).1 = 7)) := by
  refine ⟨fun h => ⟨if_neg (by simp [h]), if_neg (by simp [h])⟩, fun h => ?_⟩
  unfold bodyR makeR
  rw [if_pos h, if_pos h]
  refine ⟨?_, ?_⟩
  · cases (bodyC t).isSome
    · exact .inr rfl
    · exact .inl rfl
  · cases (makeC t).isSome
    · exact .inr rfl
    · exact .inl rfl
/-- What base's four functions do. Needs m W: what they ask of the package variables, which lie below m. -/
structure MakesOps where
  Needs : Nat → World → Prop
  needs : ∀ {m : Nat} {A B : World}, Needs m A → Below m A B → Needs m B
  body : ∀ {n : Nat} (t : Tm n) (ns m : Nat) (W : World), Needs m W → m ≤ W.heap.size → IsT ns W t → ns ≤ W.heap.size → n ≤ 274877906944 →
    Calls Tryd.prog 4 #[t.tv.val] W fun e W' => TAns (2 * n + 8) ns W.heap.size (bodyR t).1 (bodyR t).2 e W' ∧ Below W.heap.size W W'
  make : ∀ {n : Nat} (t : Tm (n + 1)) (m : Nat) (W : World), Needs m W → m ≤ W.heap.size → IsT W.heap.size W t → 2 * (code t).length ≤ 4194304 → n ≤ 274877906944 →
    Calls Tryd.prog 5 #[t.tv.val] W fun e W' => CAns (2 * n + 8) W.heap.size W.heap.size (makeR t).1 (makeR t).2.1 (makeR t).2.2 e W' ∧ Below W.heap.size W W'
  plain : ∀ {n : Nat} (th tb : Tm (n + 1)) (m : Nat) (W : World), Needs m W → m ≤ W.heap.size → IsT W.heap.size W th → IsT W.heap.size W tb → 2 * ((code th).length + (code tb).length + 1) ≤ 4194304 → n ≤ 274877906944 →
    Calls Tryd.prog 6 #[clV th.tv tb.tv] W fun e W' => TAns (2 * n + 8) W.heap.size W.heap.size (plainR th tb).1 (plainR th tb).2 e W' ∧ Below W.heap.size W W'
  res : ∀ (s : ByteArray) (n : Int) (m : Nat) (W : World), Needs m W → m ≤ W.heap.size →
    Calls Tryd.prog 7 #[.string s, .int .i64 n] W fun e W' => e = .returned (.bool (resB s.toList n)) ∧ Below W.heap.size W W'
set_option maxRecDepth 100000 in
set_option maxHeartbeats 8000000 in
theorem baseMakes_any (B : MakesOps) (kN : Nat) {n : Nat} (t th tb : Tm (n + 1)) (s : ByteArray) (i : Int) (m : Int) (W : World) (hT : IsT W.heap.size W t) (hTH : IsT W.heap.size W th) (hTB : IsT W.heap.size W tb) (hl : 2 * (code t).length ≤ 4194304) (hl2 : 2 * ((code th).length + (code tb).length + 1) ≤ 4194304) (hN : B.Needs kN W) (hkN : kN ≤ W.heap.size) (hm : W.cell? ⟨splitLay_ren.g 1, 0, none⟩ = some (.int .i64 m)) (hm0 : splitLay_ren.g 1 < W.heap.size) (hn38 : n ≤ 274877906943 := by omega) :
    Calls Tryd.prog 3 #[t.tv.val, clV th.tv tb.tv, .string s, .int .i64 i] W fun e W' => e = .returned (.bool true) ∧ Below W.heap.size W W' := by
  obtain ⟨W2, hW2, hbW2, hsW2, bt, bc⟩ := box_law W t.tv th.tv tb.tv
  have hBW2 : Below W.heap.size W W2 := hbW2
  have HM : Hid (∀ V, Below W.heap.size W V → V.cell? ⟨splitLay_ren.g 1, 0, none⟩ = some (.int .i64 m) ∧ splitLay_ren.g 1 < V.heap.size) := fun V hb => ⟨(hb.cell (p := ⟨splitLay_ren.g 1, 0, none⟩) hm0).trans hm, Nat.lt_of_lt_of_le hm0 hb.size⟩
  have HT : Hid (∀ V, Below W.heap.size W V → IsT V.heap.size V t ∧ IsT V.heap.size V th ∧ IsT V.heap.size V tb ∧ IsT W.heap.size V t) := fun V hb => ⟨(hT.below hb).mono hb.size, (hTH.below hb).mono hb.size, (hTB.below hb).mono hb.size, hT.below hb⟩
  have HK : Hid (∀ V, Below W.heap.size W V → B.Needs kN V ∧ kN ≤ V.heap.size) := fun V hb => ⟨B.needs hN (hb.mono hkN), Nat.le_trans hkN hb.size⟩
  have H1 : Hid (∀ V, Below W.heap.size W V → W.heap.size ≤ V.heap.size → _) := fun V (hb : Below W.heap.size W V) (hs : W.heap.size ≤ V.heap.size) => B.body t W.heap.size kN V (HK.out V hb).1 (HK.out V hb).2 (HT.out V hb).2.2.2 hs (by omega)
  have H2 : Hid (∀ V, Below W.heap.size W V → _) := fun V (hb : Below W.heap.size W V) => B.make t kN V (HK.out V hb).1 (HK.out V hb).2 (HT.out V hb).1 hl (by omega)
  have H3 : Hid (∀ V, Below W.heap.size W V → _) := fun V (hb : Below W.heap.size W V) => B.plain th tb kN V (HK.out V hb).1 (HK.out V hb).2 (HT.out V hb).2.1 (HT.out V hb).2.2.1 hl2 (by omega)
  have H4 : Hid (∀ V, Below W.heap.size W V → _) := fun V (hb : Below W.heap.size W V) => B.res s i kN V (HK.out V hb).1 (HK.out V hb).2
  have H5 : Hid (∀ V, Below W.heap.size W V → _) := fun V (hb : Below W.heap.size W V) => rres_any s i m V (HM.out V hb).1 (HM.out V hb).2
  have H6 : Hid (∀ V, Below W.heap.size W V → _) := fun V (hb : Below W.heap.size W V) => rplain_r th tb m V (HT.out V hb).2.1 (HT.out V hb).2.2.1 hl2 (HM.out V hb).1 (HM.out V hb).2
  have H8 : Hid (∀ V, Below W.heap.size W V → _) := fun V (hb : Below W.heap.size W V) => formed_any _ t V (HT.out V hb).1
  have HR1 : Hid (okT t = true → ∀ V, Below W.heap.size W V → W.heap.size ≤ V.heap.size → _) := fun (hok : okT t = true) V (hb : Below W.heap.size W V) (hs : W.heap.size ≤ V.heap.size) => rbody_r t W.heap.size V (HT.out V hb).2.2.2 hs hok
  have HR2 : Hid (okT t = true → ∀ V, Below W.heap.size W V → _) := fun (hok : okT t = true) V (hb : Below W.heap.size W V) => rmake_r t m V (HT.out V hb).1 hok hl (HM.out V hb).1 (HM.out V hb).2
  have HFB : Hid ((okT t = false → bodyR t = (2, noC) ∧ makeR t = (2, noC, noC)) ∧ (okT t = true → ((bodyR t).1 = 0 ∨ (bodyR t).1 = 7) ∧ ((makeR t).1 = 0 ∨ (makeR t).1 = 7))) := law_errs t
  generalize bodyR t = br at H1 HR1 HFB
  generalize makeR t = mr at H2 HR2 HFB
  generalize plainR th tb = pr at H3 H6
  generalize resB s.toList i = rb at H4 H5
  obtain ⟨be, bcd⟩ := br
  obtain ⟨me, mh, mb⟩ := mr
  obtain ⟨pe, pc⟩ := pr
  simp only [TV.val, TAns, CAns, TYes, CYes, clV] at H1 H2 H3 H4 H5 H6 H8 HR1 HR2 ⊢
  clear hT hTH hTB hm hm0 hl hl2 HT HM HK hN hkN
  have t_0 := bt.c0
  have t_1 := bt.c1
  have t_2 := bt.c2
  have t_3 := bt.c3
  have h1 := H1.out W2 hBW2 hBW2.size
  have Bt := hide bt
  clear bt
  have Bc := hide bc
  clear bc
  go_enter Tryd.func3, Tryd.ntmps3
  go_wp2_with fail
  try rw [hW2]
  refine h1.mono ?_
  rintro e V1 ⟨⟨D1, x1, rfl, q1⟩, g1⟩
  clear h1 hW2 H1
  clear t_0 t_1 t_2 t_3
  have sV1 := g1.size
  have bt := (unhide Bt).below g1 (by have := (unhide Bt).lt; omega)
  clear Bt
  have bc := (unhide Bc).below g1 (by have := (unhide Bc).lt; omega)
  clear Bc
  have hBV1 : Below W.heap.size W V1 := hBW2.trans (g1.mono (by have := hBW2.size; omega))
  have Q1 := hide q1
  clear q1 g1
  have Bt := hide bt
  clear bt
  have Bc := hide bc
  clear bc
  obtain ⟨U1, eU1, gU1, lU1, bnew⟩ : ∃ V', V1.alloc (.cells #[.int .i64 x1.k, .int .i64 x1.N, .string x1.s, .slice x1.a x1.len x1.cap] 24) = V' ∧ Below V1.heap.size V1 V' ∧ V1.heap.size + 1 ≤ V'.heap.size ∧ BoxT V' V1.heap.size x1 := ⟨_, rfl, (Below.refl _ _).alloc (Nat.le_refl _) _, by simp, BoxT.new V1 x1⟩
  have sU1 := gU1.size
  have bt := (unhide Bt).below gU1 (by have := (unhide Bt).lt; omega)
  clear Bt
  have bc := (unhide Bc).below gU1 (by have := (unhide Bc).lt; omega)
  clear Bc
  have Q1' := hide ((unhide Q1).below gU1)
  clear Q1
  have Q1 := Q1'
  clear Q1'
  have hBU1 : Below W.heap.size W U1 := hBV1.trans (gU1.mono (by have := hBV1.size; omega))
  have bb := bnew
  clear bnew gU1
  have h2 := H2.out U1 hBU1
  have t_0 := bt.c0
  have t_1 := bt.c1
  have t_2 := bt.c2
  have t_3 := bt.c3
  have Bt := hide bt
  clear bt
  have Bc := hide bc
  clear bc
  have Bb := hide bb
  clear bb
  go_wp2_with fail
  try rw [eU1]
  refine h2.mono ?_
  rintro e V2 ⟨⟨D2, x2, y2, rfl, q2, r2⟩, g2⟩
  clear h2 eU1 H2
  clear t_0 t_1 t_2 t_3
  have sV2 := g2.size
  have bt := (unhide Bt).below g2 (by have := (unhide Bt).lt; omega)
  clear Bt
  have bc := (unhide Bc).below g2 (by have := (unhide Bc).lt; omega)
  clear Bc
  have bb := (unhide Bb).below g2 (by have := (unhide Bb).lt; omega)
  clear Bb
  have Q1' := hide ((unhide Q1).below g2)
  clear Q1
  have Q1 := Q1'
  clear Q1'
  have hBV2 : Below W.heap.size W V2 := hBU1.trans (g2.mono (by have := hBU1.size; omega))
  have Q2 := hide q2
  have R2 := hide r2
  clear q2 r2 g2
  have Bt := hide bt
  clear bt
  have Bc := hide bc
  clear bc
  have Bb := hide bb
  clear bb
  obtain ⟨U2, eU2, gU2, lU2, bnew⟩ : ∃ V', V2.alloc (.cells #[.int .i64 x2.k, .int .i64 x2.N, .string x2.s, .slice x2.a x2.len x2.cap, .int .i64 y2.k, .int .i64 y2.N, .string y2.s, .slice y2.a y2.len y2.cap] 26) = V' ∧ Below V2.heap.size V2 V' ∧ V2.heap.size + 1 ≤ V'.heap.size ∧ BoxC V' V2.heap.size x2 y2 := ⟨_, rfl, (Below.refl _ _).alloc (Nat.le_refl _) _, by simp, BoxC.new V2 x2 y2⟩
  have sU2 := gU2.size
  have bt := (unhide Bt).below gU2 (by have := (unhide Bt).lt; omega)
  clear Bt
  have bc := (unhide Bc).below gU2 (by have := (unhide Bc).lt; omega)
  clear Bc
  have bb := (unhide Bb).below gU2 (by have := (unhide Bb).lt; omega)
  clear Bb
  have Q1' := hide ((unhide Q1).below gU2)
  clear Q1
  have Q1 := Q1'
  clear Q1'
  have Q2' := hide ((unhide Q2).below gU2)
  clear Q2
  have Q2 := Q2'
  clear Q2'
  have R2' := hide ((unhide R2).below gU2)
  clear R2
  have R2 := R2'
  clear R2'
  have hBU2 : Below W.heap.size W U2 := hBV2.trans (gU2.mono (by have := hBV2.size; omega))
  have bd := bnew
  clear bnew gU2
  have h3 := H3.out U2 hBU2
  obtain ⟨⟨c_0, c_1, c_2, c_3⟩, c_4, c_5, c_6, c_7⟩ := bc.cs
  have Bt := hide bt
  clear bt
  have Bc := hide bc
  clear bc
  have Bb := hide bb
  clear bb
  have Bd := hide bd
  clear bd
  go_wp2_with fail
  try rw [eU2]
  refine h3.mono ?_
  rintro e V3 ⟨⟨D3, x3, rfl, q3⟩, g3⟩
  clear h3 eU2 H3
  clear c_0 c_1 c_2 c_3 c_4 c_5 c_6 c_7
  have sV3 := g3.size
  have bt := (unhide Bt).below g3 (by have := (unhide Bt).lt; omega)
  clear Bt
  have bc := (unhide Bc).below g3 (by have := (unhide Bc).lt; omega)
  clear Bc
  have bb := (unhide Bb).below g3 (by have := (unhide Bb).lt; omega)
  clear Bb
  have bd := (unhide Bd).below g3 (by have := (unhide Bd).lt; omega)
  clear Bd
  have Q1' := hide ((unhide Q1).below g3)
  clear Q1
  have Q1 := Q1'
  clear Q1'
  have Q2' := hide ((unhide Q2).below g3)
  clear Q2
  have Q2 := Q2'
  clear Q2'
  have R2' := hide ((unhide R2).below g3)
  clear R2
  have R2 := R2'
  clear R2'
  have hBV3 : Below W.heap.size W V3 := hBU2.trans (g3.mono (by have := hBU2.size; omega))
  have Q3 := hide q3
  clear q3 g3
  have Bt := hide bt
  clear bt
  have Bc := hide bc
  clear bc
  have Bb := hide bb
  clear bb
  have Bd := hide bd
  clear bd
  obtain ⟨U3, eU3, gU3, lU3, bnew⟩ : ∃ V', V3.alloc (.cells #[.int .i64 x3.k, .int .i64 x3.N, .string x3.s, .slice x3.a x3.len x3.cap] 24) = V' ∧ Below V3.heap.size V3 V' ∧ V3.heap.size + 1 ≤ V'.heap.size ∧ BoxT V' V3.heap.size x3 := ⟨_, rfl, (Below.refl _ _).alloc (Nat.le_refl _) _, by simp, BoxT.new V3 x3⟩
  have sU3 := gU3.size
  have bt := (unhide Bt).below gU3 (by have := (unhide Bt).lt; omega)
  clear Bt
  have bc := (unhide Bc).below gU3 (by have := (unhide Bc).lt; omega)
  clear Bc
  have bb := (unhide Bb).below gU3 (by have := (unhide Bb).lt; omega)
  clear Bb
  have bd := (unhide Bd).below gU3 (by have := (unhide Bd).lt; omega)
  clear Bd
  have Q1' := hide ((unhide Q1).below gU3)
  clear Q1
  have Q1 := Q1'
  clear Q1'
  have Q2' := hide ((unhide Q2).below gU3)
  clear Q2
  have Q2 := Q2'
  clear Q2'
  have R2' := hide ((unhide R2).below gU3)
  clear R2
  have R2 := R2'
  clear R2'
  have Q3' := hide ((unhide Q3).below gU3)
  clear Q3
  have Q3 := Q3'
  clear Q3'
  have hBU3 : Below W.heap.size W U3 := hBV3.trans (gU3.mono (by have := hBV3.size; omega))
  have bp := bnew
  clear bnew gU3
  have h4 := H4.out U3 hBU3
  have Bt := hide bt
  clear bt
  have Bc := hide bc
  clear bc
  have Bb := hide bb
  clear bb
  have Bd := hide bd
  clear bd
  have Bp := hide bp
  clear bp
  go_wp2_with fail
  try rw [eU3]
  refine h4.mono ?_
  rintro e V4 ⟨rfl, g4⟩
  clear h4 eU3 H4
  have sV4 := g4.size
  have bt := (unhide Bt).below g4 (by have := (unhide Bt).lt; omega)
  clear Bt
  have bc := (unhide Bc).below g4 (by have := (unhide Bc).lt; omega)
  clear Bc
  have bb := (unhide Bb).below g4 (by have := (unhide Bb).lt; omega)
  clear Bb
  have bd := (unhide Bd).below g4 (by have := (unhide Bd).lt; omega)
  clear Bd
  have bp := (unhide Bp).below g4 (by have := (unhide Bp).lt; omega)
  clear Bp
  have Q1' := hide ((unhide Q1).below g4)
  clear Q1
  have Q1 := Q1'
  clear Q1'
  have Q2' := hide ((unhide Q2).below g4)
  clear Q2
  have Q2 := Q2'
  clear Q2'
  have R2' := hide ((unhide R2).below g4)
  clear R2
  have R2 := R2'
  clear R2'
  have Q3' := hide ((unhide Q3).below g4)
  clear Q3
  have Q3 := Q3'
  clear Q3'
  have hBV4 : Below W.heap.size W V4 := hBU3.trans (g4.mono (by have := hBU3.size; omega))
  clear g4
  have h5 := H5.out V4 hBV4
  have Bt := hide bt
  clear bt
  have Bc := hide bc
  clear bc
  have Bb := hide bb
  clear bb
  have Bd := hide bd
  clear bd
  have Bp := hide bp
  clear bp
  go_wp2_with fail
  refine h5.mono ?_
  rintro e V5 ⟨rfl, g5⟩
  clear h5 H5
  have sV5 := g5.size
  have bt := (unhide Bt).below g5 (by have := (unhide Bt).lt; omega)
  clear Bt
  have bc := (unhide Bc).below g5 (by have := (unhide Bc).lt; omega)
  clear Bc
  have bb := (unhide Bb).below g5 (by have := (unhide Bb).lt; omega)
  clear Bb
  have bd := (unhide Bd).below g5 (by have := (unhide Bd).lt; omega)
  clear Bd
  have bp := (unhide Bp).below g5 (by have := (unhide Bp).lt; omega)
  clear Bp
  have Q1' := hide ((unhide Q1).below g5)
  clear Q1
  have Q1 := Q1'
  clear Q1'
  have Q2' := hide ((unhide Q2).below g5)
  clear Q2
  have Q2 := Q2'
  clear Q2'
  have R2' := hide ((unhide R2).below g5)
  clear R2
  have R2 := R2'
  clear R2'
  have Q3' := hide ((unhide Q3).below g5)
  clear Q3
  have Q3 := Q3'
  clear Q3'
  have hBV5 : Below W.heap.size W V5 := hBV4.trans (g5.mono (by have := hBV4.size; omega))
  clear g5
  have h6 := H6.out V5 hBV5
  have hrb : (rb != rb) = false := by simp
  obtain ⟨⟨c_0, c_1, c_2, c_3⟩, c_4, c_5, c_6, c_7⟩ := bc.cs
  have Bt := hide bt
  clear bt
  have Bc := hide bc
  clear bc
  have Bb := hide bb
  clear bb
  have Bd := hide bd
  clear bd
  have Bp := hide bp
  clear bp
  go_wp2_with fail
  refine h6.mono ?_
  rintro e V6 ⟨⟨D6, x6, rfl, q6⟩, g6⟩
  clear h6 H6 hrb
  clear c_0 c_1 c_2 c_3 c_4 c_5 c_6 c_7
  have sV6 := g6.size
  have bt := (unhide Bt).below g6 (by have := (unhide Bt).lt; omega)
  clear Bt
  have bc := (unhide Bc).below g6 (by have := (unhide Bc).lt; omega)
  clear Bc
  have bb := (unhide Bb).below g6 (by have := (unhide Bb).lt; omega)
  clear Bb
  have bd := (unhide Bd).below g6 (by have := (unhide Bd).lt; omega)
  clear Bd
  have bp := (unhide Bp).below g6 (by have := (unhide Bp).lt; omega)
  clear Bp
  have Q1' := hide ((unhide Q1).below g6)
  clear Q1
  have Q1 := Q1'
  clear Q1'
  have Q2' := hide ((unhide Q2).below g6)
  clear Q2
  have Q2 := Q2'
  clear Q2'
  have R2' := hide ((unhide R2).below g6)
  clear R2
  have R2 := R2'
  clear R2'
  have Q3' := hide ((unhide Q3).below g6)
  clear Q3
  have Q3 := Q3'
  clear Q3'
  have hBV6 : Below W.heap.size W V6 := hBV5.trans (g6.mono (by have := hBV5.size; omega))
  have Q6 := hide q6
  clear q6 g6
  have Bt := hide bt
  clear bt
  have Bc := hide bc
  clear bc
  have Bb := hide bb
  clear bb
  have Bd := hide bd
  clear bd
  have Bp := hide bp
  clear bp
  obtain ⟨U6, eU6, gU6, lU6, bnew⟩ : ∃ V', V6.alloc (.cells #[.int .i64 x6.k, .int .i64 x6.N, .string x6.s, .slice x6.a x6.len x6.cap] 24) = V' ∧ Below V6.heap.size V6 V' ∧ V6.heap.size + 1 ≤ V'.heap.size ∧ BoxT V' V6.heap.size x6 := ⟨_, rfl, (Below.refl _ _).alloc (Nat.le_refl _) _, by simp, BoxT.new V6 x6⟩
  have sU6 := gU6.size
  have bt := (unhide Bt).below gU6 (by have := (unhide Bt).lt; omega)
  clear Bt
  have bc := (unhide Bc).below gU6 (by have := (unhide Bc).lt; omega)
  clear Bc
  have bb := (unhide Bb).below gU6 (by have := (unhide Bb).lt; omega)
  clear Bb
  have bd := (unhide Bd).below gU6 (by have := (unhide Bd).lt; omega)
  clear Bd
  have bp := (unhide Bp).below gU6 (by have := (unhide Bp).lt; omega)
  clear Bp
  have Q1' := hide ((unhide Q1).below gU6)
  clear Q1
  have Q1 := Q1'
  clear Q1'
  have Q2' := hide ((unhide Q2).below gU6)
  clear Q2
  have Q2 := Q2'
  clear Q2'
  have R2' := hide ((unhide R2).below gU6)
  clear R2
  have R2 := R2'
  clear R2'
  have Q3' := hide ((unhide Q3).below gU6)
  clear Q3
  have Q3 := Q3'
  clear Q3'
  have Q6' := hide ((unhide Q6).below gU6)
  clear Q6
  have Q6 := Q6'
  clear Q6'
  have hBU6 : Below W.heap.size W U6 := hBV6.trans (gU6.mono (by have := hBV6.size; omega))
  have bq := bnew
  clear bnew gU6
  have h7 := same_shared (unhide Q3) (unhide Q6)
  simp only [decide_true] at h7
  have hpe : (pe != pe) = false := by simp
  have p_0 := bp.c0
  have p_1 := bp.c1
  have p_2 := bp.c2
  have p_3 := bp.c3
  have q_0 := bq.c0
  have q_1 := bq.c1
  have q_2 := bq.c2
  have q_3 := bq.c3
  have Bt := hide bt
  clear bt
  have Bc := hide bc
  clear bc
  have Bb := hide bb
  clear bb
  have Bd := hide bd
  clear bd
  have Bp := hide bp
  clear bp
  have Bq := hide bq
  clear bq
  go_wp2_with fail
  try rw [eU6]
  refine h7.mono ?_
  rintro e V7 ⟨rfl, g7⟩
  clear h7 eU6 hpe
  clear p_0 p_1 p_2 p_3
  clear q_0 q_1 q_2 q_3
  have sV7 := g7.size
  have bt := (unhide Bt).below g7 (by have := (unhide Bt).lt; omega)
  clear Bt
  have bc := (unhide Bc).below g7 (by have := (unhide Bc).lt; omega)
  clear Bc
  have bb := (unhide Bb).below g7 (by have := (unhide Bb).lt; omega)
  clear Bb
  have bd := (unhide Bd).below g7 (by have := (unhide Bd).lt; omega)
  clear Bd
  have bp := (unhide Bp).below g7 (by have := (unhide Bp).lt; omega)
  clear Bp
  have bq := (unhide Bq).below g7 (by have := (unhide Bq).lt; omega)
  clear Bq
  have Q1' := hide ((unhide Q1).below g7)
  clear Q1
  have Q1 := Q1'
  clear Q1'
  have Q2' := hide ((unhide Q2).below g7)
  clear Q2
  have Q2 := Q2'
  clear Q2'
  have R2' := hide ((unhide R2).below g7)
  clear R2
  have R2 := R2'
  clear R2'
  have Q3' := hide ((unhide Q3).below g7)
  clear Q3
  have Q3 := Q3'
  clear Q3'
  have Q6' := hide ((unhide Q6).below g7)
  clear Q6
  have Q6 := Q6'
  clear Q6'
  have hBV7 : Below W.heap.size W V7 := hBU6.trans (g7.mono (by have := hBU6.size; omega))
  clear g7
  have h8 := H8.out V7 hBV7
  have t_0 := bt.c0
  have t_1 := bt.c1
  have t_2 := bt.c2
  have t_3 := bt.c3
  have Bt := hide bt
  clear bt
  have Bc := hide bc
  clear bc
  have Bb := hide bb
  clear bb
  have Bd := hide bd
  clear bd
  have Bp := hide bp
  clear bp
  have Bq := hide bq
  clear bq
  cases hok : okT t with
  | false =>
    rw [hok] at h8
    obtain ⟨hf1, hf2⟩ := HFB.out.1 hok
    cases hf1
    cases hf2
    clear hok HR1 HR2 HFB
    go_wp2_with fail
    refine h8.mono ?_
    rintro e V8 ⟨rfl, g8⟩
    clear h8 H8
    clear t_0 t_1 t_2 t_3
    have sV8 := g8.size
    have bt := (unhide Bt).below g8 (by have := (unhide Bt).lt; omega)
    clear Bt
    have bc := (unhide Bc).below g8 (by have := (unhide Bc).lt; omega)
    clear Bc
    have bb := (unhide Bb).below g8 (by have := (unhide Bb).lt; omega)
    clear Bb
    have bd := (unhide Bd).below g8 (by have := (unhide Bd).lt; omega)
    clear Bd
    have bp := (unhide Bp).below g8 (by have := (unhide Bp).lt; omega)
    clear Bp
    have bq := (unhide Bq).below g8 (by have := (unhide Bq).lt; omega)
    clear Bq
    have Q1' := hide ((unhide Q1).below g8)
    clear Q1
    have Q1 := Q1'
    clear Q1'
    have Q2' := hide ((unhide Q2).below g8)
    clear Q2
    have Q2 := Q2'
    clear Q2'
    have R2' := hide ((unhide R2).below g8)
    clear R2
    have R2 := R2'
    clear R2'
    have Q3' := hide ((unhide Q3).below g8)
    clear Q3
    have Q3 := Q3'
    clear Q3'
    have Q6' := hide ((unhide Q6).below g8)
    clear Q6
    have Q6 := Q6'
    clear Q6'
    have hBV8 : Below W.heap.size W V8 := hBV7.trans (g8.mono (by have := hBV7.size; omega))
    clear g8
    have hn1 := none_ans (unhide Q1)
    have hn2 := none_ans (unhide Q2)
    have hn3 := none_ans (unhide R2)
    simp only [TV.val] at hn1 hn2 hn3
    have b_0 := bb.c0
    have b_1 := bb.c1
    have b_2 := bb.c2
    have b_3 := bb.c3
    have Bt := hide bt
    clear bt
    have Bc := hide bc
    clear bc
    have Bb := hide bb
    clear bb
    have Bd := hide bd
    clear bd
    have Bp := hide bp
    clear bp
    have Bq := hide bq
    clear bq
    go_wp2_with fail
    refine (hn1 _).mono ?_
    rintro e V9 ⟨rfl, g9⟩
    clear hn1
    clear b_0 b_1 b_2 b_3
    have sV9 := g9.size
    have bt := (unhide Bt).below g9 (by have := (unhide Bt).lt; omega)
    clear Bt
    have bc := (unhide Bc).below g9 (by have := (unhide Bc).lt; omega)
    clear Bc
    have bb := (unhide Bb).below g9 (by have := (unhide Bb).lt; omega)
    clear Bb
    have bd := (unhide Bd).below g9 (by have := (unhide Bd).lt; omega)
    clear Bd
    have bp := (unhide Bp).below g9 (by have := (unhide Bp).lt; omega)
    clear Bp
    have bq := (unhide Bq).below g9 (by have := (unhide Bq).lt; omega)
    clear Bq
    have Q1' := hide ((unhide Q1).below g9)
    clear Q1
    have Q1 := Q1'
    clear Q1'
    have Q2' := hide ((unhide Q2).below g9)
    clear Q2
    have Q2 := Q2'
    clear Q2'
    have R2' := hide ((unhide R2).below g9)
    clear R2
    have R2 := R2'
    clear R2'
    have Q3' := hide ((unhide Q3).below g9)
    clear Q3
    have Q3 := Q3'
    clear Q3'
    have Q6' := hide ((unhide Q6).below g9)
    clear Q6
    have Q6 := Q6'
    clear Q6'
    have hBV9 : Below W.heap.size W V9 := hBV8.trans (g9.mono (by have := hBV8.size; omega))
    clear g9
    obtain ⟨⟨d_0, d_1, d_2, d_3⟩, d_4, d_5, d_6, d_7⟩ := bd.cs
    have Bt := hide bt
    clear bt
    have Bc := hide bc
    clear bc
    have Bb := hide bb
    clear bb
    have Bd := hide bd
    clear bd
    have Bp := hide bp
    clear bp
    have Bq := hide bq
    clear bq
    go_wp2_with fail
    refine (hn2 _).mono ?_
    rintro e V10 ⟨rfl, g10⟩
    clear hn2
    clear d_0 d_1 d_2 d_3 d_4 d_5 d_6 d_7
    have sV10 := g10.size
    have bt := (unhide Bt).below g10 (by have := (unhide Bt).lt; omega)
    clear Bt
    have bc := (unhide Bc).below g10 (by have := (unhide Bc).lt; omega)
    clear Bc
    have bb := (unhide Bb).below g10 (by have := (unhide Bb).lt; omega)
    clear Bb
    have bd := (unhide Bd).below g10 (by have := (unhide Bd).lt; omega)
    clear Bd
    have bp := (unhide Bp).below g10 (by have := (unhide Bp).lt; omega)
    clear Bp
    have bq := (unhide Bq).below g10 (by have := (unhide Bq).lt; omega)
    clear Bq
    have Q1' := hide ((unhide Q1).below g10)
    clear Q1
    have Q1 := Q1'
    clear Q1'
    have Q2' := hide ((unhide Q2).below g10)
    clear Q2
    have Q2 := Q2'
    clear Q2'
    have R2' := hide ((unhide R2).below g10)
    clear R2
    have R2 := R2'
    clear R2'
    have Q3' := hide ((unhide Q3).below g10)
    clear Q3
    have Q3 := Q3'
    clear Q3'
    have Q6' := hide ((unhide Q6).below g10)
    clear Q6
    have Q6 := Q6'
    clear Q6'
    have hBV10 : Below W.heap.size W V10 := hBV9.trans (g10.mono (by have := hBV9.size; omega))
    clear g10
    obtain ⟨⟨d_0, d_1, d_2, d_3⟩, d_4, d_5, d_6, d_7⟩ := bd.cs
    have Bt := hide bt
    clear bt
    have Bc := hide bc
    clear bc
    have Bb := hide bb
    clear bb
    have Bd := hide bd
    clear bd
    have Bp := hide bp
    clear bp
    have Bq := hide bq
    clear bq
    go_wp2_with fail
    refine (hn3 _).mono ?_
    rintro e V11 ⟨rfl, g11⟩
    clear hn3
    clear d_0 d_1 d_2 d_3 d_4 d_5 d_6 d_7
    have HB : Hid (Below W.heap.size W V11) := hBV10.trans (g11.mono hBV10.size)
    clear g11
    go_wp2_with fail
    all_goals go_ret
    all_goals exact ⟨rfl, HB.out⟩
  | true =>
    rw [hok] at h8
    obtain ⟨hbe, hme⟩ := HFB.out.2 hok
    have HBE := hide hbe
    have HME := hide hme
    have J1 : Hid _ := HR1.out hok
    have J2 : Hid _ := HR2.out hok
    clear hok HR1 HR2 HFB hbe hme
    go_wp2_with fail
    refine h8.mono ?_
    rintro e V8 ⟨rfl, g8⟩
    clear h8 H8
    clear t_0 t_1 t_2 t_3
    have sV8 := g8.size
    have bt := (unhide Bt).below g8 (by have := (unhide Bt).lt; omega)
    clear Bt
    have bc := (unhide Bc).below g8 (by have := (unhide Bc).lt; omega)
    clear Bc
    have bb := (unhide Bb).below g8 (by have := (unhide Bb).lt; omega)
    clear Bb
    have bd := (unhide Bd).below g8 (by have := (unhide Bd).lt; omega)
    clear Bd
    have bp := (unhide Bp).below g8 (by have := (unhide Bp).lt; omega)
    clear Bp
    have bq := (unhide Bq).below g8 (by have := (unhide Bq).lt; omega)
    clear Bq
    have Q1' := hide ((unhide Q1).below g8)
    clear Q1
    have Q1 := Q1'
    clear Q1'
    have Q2' := hide ((unhide Q2).below g8)
    clear Q2
    have Q2 := Q2'
    clear Q2'
    have R2' := hide ((unhide R2).below g8)
    clear R2
    have R2 := R2'
    clear R2'
    have Q3' := hide ((unhide Q3).below g8)
    clear Q3
    have Q3 := Q3'
    clear Q3'
    have Q6' := hide ((unhide Q6).below g8)
    clear Q6
    have Q6 := Q6'
    clear Q6'
    have hBV8 : Below W.heap.size W V8 := hBV7.trans (g8.mono (by have := hBV7.size; omega))
    clear g8
    have j1 := J1.out V8 hBV8 hBV8.size
    generalize hd1 : decide (be = 0) = ok1 at j1
    have HD1 := hide hd1
    clear hd1
    have t_0 := bt.c0
    have t_1 := bt.c1
    have t_2 := bt.c2
    have t_3 := bt.c3
    have Bt := hide bt
    clear bt
    have Bc := hide bc
    clear bc
    have Bb := hide bb
    clear bb
    have Bd := hide bd
    clear bd
    have Bp := hide bp
    clear bp
    have Bq := hide bq
    clear bq
    go_wp2_with fail
    refine j1.mono ?_
    rintro e V9 ⟨⟨D9, x9, rfl, q9⟩, g9⟩
    clear j1 J1
    clear t_0 t_1 t_2 t_3
    have sV9 := g9.size
    have bt := (unhide Bt).below g9 (by have := (unhide Bt).lt; omega)
    clear Bt
    have bc := (unhide Bc).below g9 (by have := (unhide Bc).lt; omega)
    clear Bc
    have bb := (unhide Bb).below g9 (by have := (unhide Bb).lt; omega)
    clear Bb
    have bd := (unhide Bd).below g9 (by have := (unhide Bd).lt; omega)
    clear Bd
    have bp := (unhide Bp).below g9 (by have := (unhide Bp).lt; omega)
    clear Bp
    have bq := (unhide Bq).below g9 (by have := (unhide Bq).lt; omega)
    clear Bq
    have Q1' := hide ((unhide Q1).below g9)
    clear Q1
    have Q1 := Q1'
    clear Q1'
    have Q2' := hide ((unhide Q2).below g9)
    clear Q2
    have Q2 := Q2'
    clear Q2'
    have R2' := hide ((unhide R2).below g9)
    clear R2
    have R2 := R2'
    clear R2'
    have Q3' := hide ((unhide Q3).below g9)
    clear Q3
    have Q3 := Q3'
    clear Q3'
    have Q6' := hide ((unhide Q6).below g9)
    clear Q6
    have Q6 := Q6'
    clear Q6'
    have hBV9 : Below W.heap.size W V9 := hBV8.trans (g9.mono (by have := hBV8.size; omega))
    have Q9 := hide q9
    clear q9 g9
    have Bt := hide bt
    clear bt
    have Bc := hide bc
    clear bc
    have Bb := hide bb
    clear bb
    have Bd := hide bd
    clear bd
    have Bp := hide bp
    clear bp
    have Bq := hide bq
    clear bq
    obtain ⟨U9, eU9, gU9, lU9, bnew⟩ : ∃ V', V9.alloc (.cells #[.int .i64 x9.k, .int .i64 x9.N, .string x9.s, .slice x9.a x9.len x9.cap] 24) = V' ∧ Below V9.heap.size V9 V' ∧ V9.heap.size + 1 ≤ V'.heap.size ∧ BoxT V' V9.heap.size x9 := ⟨_, rfl, (Below.refl _ _).alloc (Nat.le_refl _) _, by simp, BoxT.new V9 x9⟩
    have sU9 := gU9.size
    have bt := (unhide Bt).below gU9 (by have := (unhide Bt).lt; omega)
    clear Bt
    have bc := (unhide Bc).below gU9 (by have := (unhide Bc).lt; omega)
    clear Bc
    have bb := (unhide Bb).below gU9 (by have := (unhide Bb).lt; omega)
    clear Bb
    have bd := (unhide Bd).below gU9 (by have := (unhide Bd).lt; omega)
    clear Bd
    have bp := (unhide Bp).below gU9 (by have := (unhide Bp).lt; omega)
    clear Bp
    have bq := (unhide Bq).below gU9 (by have := (unhide Bq).lt; omega)
    clear Bq
    have Q1' := hide ((unhide Q1).below gU9)
    clear Q1
    have Q1 := Q1'
    clear Q1'
    have Q2' := hide ((unhide Q2).below gU9)
    clear Q2
    have Q2 := Q2'
    clear Q2'
    have R2' := hide ((unhide R2).below gU9)
    clear R2
    have R2 := R2'
    clear R2'
    have Q3' := hide ((unhide Q3).below gU9)
    clear Q3
    have Q3 := Q3'
    clear Q3'
    have Q6' := hide ((unhide Q6).below gU9)
    clear Q6
    have Q6 := Q6'
    clear Q6'
    have Q9' := hide ((unhide Q9).below gU9)
    clear Q9
    have Q9 := Q9'
    clear Q9'
    have hBU9 : Below W.heap.size W U9 := hBV9.trans (gU9.mono (by have := hBV9.size; omega))
    have bx := bnew
    clear bnew gU9
    have j2 := J2.out U9 hBU9
    generalize hd2 : decide (me = 0) = ok2 at j2
    have HD2 := hide hd2
    clear hd2
    have t_0 := bt.c0
    have t_1 := bt.c1
    have t_2 := bt.c2
    have t_3 := bt.c3
    have Bt := hide bt
    clear bt
    have Bc := hide bc
    clear bc
    have Bb := hide bb
    clear bb
    have Bd := hide bd
    clear bd
    have Bp := hide bp
    clear bp
    have Bq := hide bq
    clear bq
    have Bx := hide bx
    clear bx
    go_wp2_with fail
    try rw [eU9]
    refine j2.mono ?_
    rintro e V10 ⟨⟨D10, x10, y10, rfl, q10, r10⟩, g10⟩
    clear j2 J2 eU9
    clear t_0 t_1 t_2 t_3
    have sV10 := g10.size
    have bt := (unhide Bt).below g10 (by have := (unhide Bt).lt; omega)
    clear Bt
    have bc := (unhide Bc).below g10 (by have := (unhide Bc).lt; omega)
    clear Bc
    have bb := (unhide Bb).below g10 (by have := (unhide Bb).lt; omega)
    clear Bb
    have bd := (unhide Bd).below g10 (by have := (unhide Bd).lt; omega)
    clear Bd
    have bp := (unhide Bp).below g10 (by have := (unhide Bp).lt; omega)
    clear Bp
    have bq := (unhide Bq).below g10 (by have := (unhide Bq).lt; omega)
    clear Bq
    have bx := (unhide Bx).below g10 (by have := (unhide Bx).lt; omega)
    clear Bx
    have Q1' := hide ((unhide Q1).below g10)
    clear Q1
    have Q1 := Q1'
    clear Q1'
    have Q2' := hide ((unhide Q2).below g10)
    clear Q2
    have Q2 := Q2'
    clear Q2'
    have R2' := hide ((unhide R2).below g10)
    clear R2
    have R2 := R2'
    clear R2'
    have Q3' := hide ((unhide Q3).below g10)
    clear Q3
    have Q3 := Q3'
    clear Q3'
    have Q6' := hide ((unhide Q6).below g10)
    clear Q6
    have Q6 := Q6'
    clear Q6'
    have Q9' := hide ((unhide Q9).below g10)
    clear Q9
    have Q9 := Q9'
    clear Q9'
    have hBV10 : Below W.heap.size W V10 := hBU9.trans (g10.mono (by have := hBU9.size; omega))
    have Q10 := hide q10
    have R10 := hide r10
    clear q10 r10 g10
    have Bt := hide bt
    clear bt
    have Bc := hide bc
    clear bc
    have Bb := hide bb
    clear bb
    have Bd := hide bd
    clear bd
    have Bp := hide bp
    clear bp
    have Bq := hide bq
    clear bq
    have Bx := hide bx
    clear bx
    obtain ⟨U10, eU10, gU10, lU10, bnew⟩ : ∃ V', V10.alloc (.cells #[.int .i64 x10.k, .int .i64 x10.N, .string x10.s, .slice x10.a x10.len x10.cap, .int .i64 y10.k, .int .i64 y10.N, .string y10.s, .slice y10.a y10.len y10.cap] 26) = V' ∧ Below V10.heap.size V10 V' ∧ V10.heap.size + 1 ≤ V'.heap.size ∧ BoxC V' V10.heap.size x10 y10 := ⟨_, rfl, (Below.refl _ _).alloc (Nat.le_refl _) _, by simp, BoxC.new V10 x10 y10⟩
    have sU10 := gU10.size
    have bt := (unhide Bt).below gU10 (by have := (unhide Bt).lt; omega)
    clear Bt
    have bc := (unhide Bc).below gU10 (by have := (unhide Bc).lt; omega)
    clear Bc
    have bb := (unhide Bb).below gU10 (by have := (unhide Bb).lt; omega)
    clear Bb
    have bd := (unhide Bd).below gU10 (by have := (unhide Bd).lt; omega)
    clear Bd
    have bp := (unhide Bp).below gU10 (by have := (unhide Bp).lt; omega)
    clear Bp
    have bq := (unhide Bq).below gU10 (by have := (unhide Bq).lt; omega)
    clear Bq
    have bx := (unhide Bx).below gU10 (by have := (unhide Bx).lt; omega)
    clear Bx
    have Q1' := hide ((unhide Q1).below gU10)
    clear Q1
    have Q1 := Q1'
    clear Q1'
    have Q2' := hide ((unhide Q2).below gU10)
    clear Q2
    have Q2 := Q2'
    clear Q2'
    have R2' := hide ((unhide R2).below gU10)
    clear R2
    have R2 := R2'
    clear R2'
    have Q3' := hide ((unhide Q3).below gU10)
    clear Q3
    have Q3 := Q3'
    clear Q3'
    have Q6' := hide ((unhide Q6).below gU10)
    clear Q6
    have Q6 := Q6'
    clear Q6'
    have Q9' := hide ((unhide Q9).below gU10)
    clear Q9
    have Q9 := Q9'
    clear Q9'
    have Q10' := hide ((unhide Q10).below gU10)
    clear Q10
    have Q10 := Q10'
    clear Q10'
    have R10' := hide ((unhide R10).below gU10)
    clear R10
    have R10 := R10'
    clear R10'
    have hBU10 : Below W.heap.size W U10 := hBV10.trans (gU10.mono (by have := hBV10.size; omega))
    have bz := bnew
    clear bnew gU10
    have k1 := same_shared (unhide Q1) (unhide Q9)
    simp only [decide_true] at k1
    have HK : Hid (∀ V, Below U10.heap.size U10 V → (Calls Tryd.prog 10 #[x2.val, x10.val] V fun e W' => e = .returned (.bool (decide (mh = mh))) ∧ Below V.heap.size V W') ∧ (Calls Tryd.prog 10 #[y2.val, y10.val] V fun e W' => e = .returned (.bool (decide (mb = mb))) ∧ Below V.heap.size V W')) := fun V hb => ⟨same_shared ((unhide Q2).below hb) ((unhide Q10).below hb), same_shared ((unhide R2).below hb) ((unhide R10).below hb)⟩
    simp only [TV.val, decide_true] at HK
    clear Q1
    clear Q2
    clear R2
    clear Q3
    clear Q6
    clear Q9
    clear Q10
    clear R10
    have b_0 := bb.c0
    have b_1 := bb.c1
    have b_2 := bb.c2
    have b_3 := bb.c3
    have x_0 := bx.c0
    have x_1 := bx.c1
    have x_2 := bx.c2
    have x_3 := bx.c3
    have Bt := hide bt
    clear bt
    have Bc := hide bc
    clear bc
    have Bb := hide bb
    clear bb
    have Bd := hide bd
    clear bd
    have Bp := hide bp
    clear bp
    have Bq := hide bq
    clear bq
    have Bx := hide bx
    clear bx
    have Bz := hide bz
    clear bz
    have hbe := unhide HBE
    have hme := unhide HME
    rcases hbe with rfl | rfl
    · rcases hme with rfl | rfl
      · obtain rfl : ok1 = true := (unhide HD1).symm.trans (by decide)
        obtain rfl : ok2 = true := (unhide HD2).symm.trans (by decide)
        clear HD1 HD2 HBE HME
        go_wp2_with fail
        try rw [eU10]
        refine k1.mono ?_
        rintro e V11 ⟨rfl, g11⟩
        clear k1 eU10
        clear b_0 b_1 b_2 b_3
        clear x_0 x_1 x_2 x_3
        have sV11 := g11.size
        have bt := (unhide Bt).below g11 (by have := (unhide Bt).lt; omega)
        clear Bt
        have bc := (unhide Bc).below g11 (by have := (unhide Bc).lt; omega)
        clear Bc
        have bb := (unhide Bb).below g11 (by have := (unhide Bb).lt; omega)
        clear Bb
        have bd := (unhide Bd).below g11 (by have := (unhide Bd).lt; omega)
        clear Bd
        have bp := (unhide Bp).below g11 (by have := (unhide Bp).lt; omega)
        clear Bp
        have bq := (unhide Bq).below g11 (by have := (unhide Bq).lt; omega)
        clear Bq
        have bx := (unhide Bx).below g11 (by have := (unhide Bx).lt; omega)
        clear Bx
        have bz := (unhide Bz).below g11 (by have := (unhide Bz).lt; omega)
        clear Bz
        have hBV11 : Below W.heap.size W V11 := hBU10.trans (g11.mono (by have := hBU10.size; omega))
        have kk := HK.out V11 g11
        have k2 := kk.1
        have HK3 : Hid (∀ V, Below V11.heap.size V11 V → _) := fun V (hb : Below V11.heap.size V11 V) => (HK.out V (g11.trans (hb.mono g11.size))).2
        clear kk g11 HK
        obtain ⟨⟨d_0, d_1, d_2, d_3⟩, d_4, d_5, d_6, d_7⟩ := bd.cs
        obtain ⟨⟨z_0, z_1, z_2, z_3⟩, z_4, z_5, z_6, z_7⟩ := bz.cs
        have Bt := hide bt
        clear bt
        have Bc := hide bc
        clear bc
        have Bb := hide bb
        clear bb
        have Bd := hide bd
        clear bd
        have Bp := hide bp
        clear bp
        have Bq := hide bq
        clear bq
        have Bx := hide bx
        clear bx
        have Bz := hide bz
        clear bz
        go_wp2_with fail
        refine k2.mono ?_
        rintro e V12 ⟨rfl, g12⟩
        clear k2
        clear d_0 d_1 d_2 d_3 d_4 d_5 d_6 d_7
        clear z_0 z_1 z_2 z_3 z_4 z_5 z_6 z_7
        have sV12 := g12.size
        have bt := (unhide Bt).below g12 (by have := (unhide Bt).lt; omega)
        clear Bt
        have bc := (unhide Bc).below g12 (by have := (unhide Bc).lt; omega)
        clear Bc
        have bb := (unhide Bb).below g12 (by have := (unhide Bb).lt; omega)
        clear Bb
        have bd := (unhide Bd).below g12 (by have := (unhide Bd).lt; omega)
        clear Bd
        have bp := (unhide Bp).below g12 (by have := (unhide Bp).lt; omega)
        clear Bp
        have bq := (unhide Bq).below g12 (by have := (unhide Bq).lt; omega)
        clear Bq
        have bx := (unhide Bx).below g12 (by have := (unhide Bx).lt; omega)
        clear Bx
        have bz := (unhide Bz).below g12 (by have := (unhide Bz).lt; omega)
        clear Bz
        have hBV12 : Below W.heap.size W V12 := hBV11.trans (g12.mono (by have := hBV11.size; omega))
        have k3 := HK3.out V12 g12
        clear g12 HK3
        obtain ⟨⟨d_0, d_1, d_2, d_3⟩, d_4, d_5, d_6, d_7⟩ := bd.cs
        obtain ⟨⟨z_0, z_1, z_2, z_3⟩, z_4, z_5, z_6, z_7⟩ := bz.cs
        have Bt := hide bt
        clear bt
        have Bc := hide bc
        clear bc
        have Bb := hide bb
        clear bb
        have Bd := hide bd
        clear bd
        have Bp := hide bp
        clear bp
        have Bq := hide bq
        clear bq
        have Bx := hide bx
        clear bx
        have Bz := hide bz
        clear bz
        go_wp2_with fail
        refine k3.mono ?_
        rintro e V13 ⟨rfl, g13⟩
        clear k3
        clear d_0 d_1 d_2 d_3 d_4 d_5 d_6 d_7
        clear z_0 z_1 z_2 z_3 z_4 z_5 z_6 z_7
        have HB : Hid (Below W.heap.size W V13) := hBV12.trans (g13.mono hBV12.size)
        clear g13
        go_wp2_with fail
        all_goals go_ret
        all_goals exact ⟨rfl, HB.out⟩
      · obtain rfl : ok1 = true := (unhide HD1).symm.trans (by decide)
        obtain rfl : ok2 = false := (unhide HD2).symm.trans (by decide)
        clear HD1 HD2 HBE HME
        go_wp2_with fail
        try rw [eU10]
        refine k1.mono ?_
        rintro e V11 ⟨rfl, g11⟩
        clear k1 eU10
        clear b_0 b_1 b_2 b_3
        clear x_0 x_1 x_2 x_3
        have sV11 := g11.size
        have bt := (unhide Bt).below g11 (by have := (unhide Bt).lt; omega)
        clear Bt
        have bc := (unhide Bc).below g11 (by have := (unhide Bc).lt; omega)
        clear Bc
        have bb := (unhide Bb).below g11 (by have := (unhide Bb).lt; omega)
        clear Bb
        have bd := (unhide Bd).below g11 (by have := (unhide Bd).lt; omega)
        clear Bd
        have bp := (unhide Bp).below g11 (by have := (unhide Bp).lt; omega)
        clear Bp
        have bq := (unhide Bq).below g11 (by have := (unhide Bq).lt; omega)
        clear Bq
        have bx := (unhide Bx).below g11 (by have := (unhide Bx).lt; omega)
        clear Bx
        have bz := (unhide Bz).below g11 (by have := (unhide Bz).lt; omega)
        clear Bz
        have hBV11 : Below W.heap.size W V11 := hBU10.trans (g11.mono (by have := hBU10.size; omega))
        have kk := HK.out V11 g11
        have k2 := kk.1
        have HK3 : Hid (∀ V, Below V11.heap.size V11 V → _) := fun V (hb : Below V11.heap.size V11 V) => (HK.out V (g11.trans (hb.mono g11.size))).2
        clear kk g11 HK
        obtain ⟨⟨d_0, d_1, d_2, d_3⟩, d_4, d_5, d_6, d_7⟩ := bd.cs
        obtain ⟨⟨z_0, z_1, z_2, z_3⟩, z_4, z_5, z_6, z_7⟩ := bz.cs
        have Bt := hide bt
        clear bt
        have Bc := hide bc
        clear bc
        have Bb := hide bb
        clear bb
        have Bd := hide bd
        clear bd
        have Bp := hide bp
        clear bp
        have Bq := hide bq
        clear bq
        have Bx := hide bx
        clear bx
        have Bz := hide bz
        clear bz
        go_wp2_with fail
        refine k2.mono ?_
        rintro e V12 ⟨rfl, g12⟩
        clear k2
        clear d_0 d_1 d_2 d_3 d_4 d_5 d_6 d_7
        clear z_0 z_1 z_2 z_3 z_4 z_5 z_6 z_7
        have sV12 := g12.size
        have bt := (unhide Bt).below g12 (by have := (unhide Bt).lt; omega)
        clear Bt
        have bc := (unhide Bc).below g12 (by have := (unhide Bc).lt; omega)
        clear Bc
        have bb := (unhide Bb).below g12 (by have := (unhide Bb).lt; omega)
        clear Bb
        have bd := (unhide Bd).below g12 (by have := (unhide Bd).lt; omega)
        clear Bd
        have bp := (unhide Bp).below g12 (by have := (unhide Bp).lt; omega)
        clear Bp
        have bq := (unhide Bq).below g12 (by have := (unhide Bq).lt; omega)
        clear Bq
        have bx := (unhide Bx).below g12 (by have := (unhide Bx).lt; omega)
        clear Bx
        have bz := (unhide Bz).below g12 (by have := (unhide Bz).lt; omega)
        clear Bz
        have hBV12 : Below W.heap.size W V12 := hBV11.trans (g12.mono (by have := hBV11.size; omega))
        have k3 := HK3.out V12 g12
        clear g12 HK3
        obtain ⟨⟨d_0, d_1, d_2, d_3⟩, d_4, d_5, d_6, d_7⟩ := bd.cs
        obtain ⟨⟨z_0, z_1, z_2, z_3⟩, z_4, z_5, z_6, z_7⟩ := bz.cs
        have Bt := hide bt
        clear bt
        have Bc := hide bc
        clear bc
        have Bb := hide bb
        clear bb
        have Bd := hide bd
        clear bd
        have Bp := hide bp
        clear bp
        have Bq := hide bq
        clear bq
        have Bx := hide bx
        clear bx
        have Bz := hide bz
        clear bz
        go_wp2_with fail
        refine k3.mono ?_
        rintro e V13 ⟨rfl, g13⟩
        clear k3
        clear d_0 d_1 d_2 d_3 d_4 d_5 d_6 d_7
        clear z_0 z_1 z_2 z_3 z_4 z_5 z_6 z_7
        have HB : Hid (Below W.heap.size W V13) := hBV12.trans (g13.mono hBV12.size)
        clear g13
        go_wp2_with fail
        all_goals go_ret
        all_goals exact ⟨rfl, HB.out⟩
    · rcases hme with rfl | rfl
      · obtain rfl : ok1 = false := (unhide HD1).symm.trans (by decide)
        obtain rfl : ok2 = true := (unhide HD2).symm.trans (by decide)
        clear HD1 HD2 HBE HME
        go_wp2_with fail
        try rw [eU10]
        refine k1.mono ?_
        rintro e V11 ⟨rfl, g11⟩
        clear k1 eU10
        clear b_0 b_1 b_2 b_3
        clear x_0 x_1 x_2 x_3
        have sV11 := g11.size
        have bt := (unhide Bt).below g11 (by have := (unhide Bt).lt; omega)
        clear Bt
        have bc := (unhide Bc).below g11 (by have := (unhide Bc).lt; omega)
        clear Bc
        have bb := (unhide Bb).below g11 (by have := (unhide Bb).lt; omega)
        clear Bb
        have bd := (unhide Bd).below g11 (by have := (unhide Bd).lt; omega)
        clear Bd
        have bp := (unhide Bp).below g11 (by have := (unhide Bp).lt; omega)
        clear Bp
        have bq := (unhide Bq).below g11 (by have := (unhide Bq).lt; omega)
        clear Bq
        have bx := (unhide Bx).below g11 (by have := (unhide Bx).lt; omega)
        clear Bx
        have bz := (unhide Bz).below g11 (by have := (unhide Bz).lt; omega)
        clear Bz
        have hBV11 : Below W.heap.size W V11 := hBU10.trans (g11.mono (by have := hBU10.size; omega))
        have kk := HK.out V11 g11
        have k2 := kk.1
        have HK3 : Hid (∀ V, Below V11.heap.size V11 V → _) := fun V (hb : Below V11.heap.size V11 V) => (HK.out V (g11.trans (hb.mono g11.size))).2
        clear kk g11 HK
        obtain ⟨⟨d_0, d_1, d_2, d_3⟩, d_4, d_5, d_6, d_7⟩ := bd.cs
        obtain ⟨⟨z_0, z_1, z_2, z_3⟩, z_4, z_5, z_6, z_7⟩ := bz.cs
        have Bt := hide bt
        clear bt
        have Bc := hide bc
        clear bc
        have Bb := hide bb
        clear bb
        have Bd := hide bd
        clear bd
        have Bp := hide bp
        clear bp
        have Bq := hide bq
        clear bq
        have Bx := hide bx
        clear bx
        have Bz := hide bz
        clear bz
        go_wp2_with fail
        refine k2.mono ?_
        rintro e V12 ⟨rfl, g12⟩
        clear k2
        clear d_0 d_1 d_2 d_3 d_4 d_5 d_6 d_7
        clear z_0 z_1 z_2 z_3 z_4 z_5 z_6 z_7
        have sV12 := g12.size
        have bt := (unhide Bt).below g12 (by have := (unhide Bt).lt; omega)
        clear Bt
        have bc := (unhide Bc).below g12 (by have := (unhide Bc).lt; omega)
        clear Bc
        have bb := (unhide Bb).below g12 (by have := (unhide Bb).lt; omega)
        clear Bb
        have bd := (unhide Bd).below g12 (by have := (unhide Bd).lt; omega)
        clear Bd
        have bp := (unhide Bp).below g12 (by have := (unhide Bp).lt; omega)
        clear Bp
        have bq := (unhide Bq).below g12 (by have := (unhide Bq).lt; omega)
        clear Bq
        have bx := (unhide Bx).below g12 (by have := (unhide Bx).lt; omega)
        clear Bx
        have bz := (unhide Bz).below g12 (by have := (unhide Bz).lt; omega)
        clear Bz
        have hBV12 : Below W.heap.size W V12 := hBV11.trans (g12.mono (by have := hBV11.size; omega))
        have k3 := HK3.out V12 g12
        clear g12 HK3
        obtain ⟨⟨d_0, d_1, d_2, d_3⟩, d_4, d_5, d_6, d_7⟩ := bd.cs
        obtain ⟨⟨z_0, z_1, z_2, z_3⟩, z_4, z_5, z_6, z_7⟩ := bz.cs
        have Bt := hide bt
        clear bt
        have Bc := hide bc
        clear bc
        have Bb := hide bb
        clear bb
        have Bd := hide bd
        clear bd
        have Bp := hide bp
        clear bp
        have Bq := hide bq
        clear bq
        have Bx := hide bx
        clear bx
        have Bz := hide bz
        clear bz
        go_wp2_with fail
        refine k3.mono ?_
        rintro e V13 ⟨rfl, g13⟩
        clear k3
        clear d_0 d_1 d_2 d_3 d_4 d_5 d_6 d_7
        clear z_0 z_1 z_2 z_3 z_4 z_5 z_6 z_7
        have HB : Hid (Below W.heap.size W V13) := hBV12.trans (g13.mono hBV12.size)
        clear g13
        go_wp2_with fail
        all_goals go_ret
        all_goals exact ⟨rfl, HB.out⟩
      · obtain rfl : ok1 = false := (unhide HD1).symm.trans (by decide)
        obtain rfl : ok2 = false := (unhide HD2).symm.trans (by decide)
        clear HD1 HD2 HBE HME
        go_wp2_with fail
        try rw [eU10]
        refine k1.mono ?_
        rintro e V11 ⟨rfl, g11⟩
        clear k1 eU10
        clear b_0 b_1 b_2 b_3
        clear x_0 x_1 x_2 x_3
        have sV11 := g11.size
        have bt := (unhide Bt).below g11 (by have := (unhide Bt).lt; omega)
        clear Bt
        have bc := (unhide Bc).below g11 (by have := (unhide Bc).lt; omega)
        clear Bc
        have bb := (unhide Bb).below g11 (by have := (unhide Bb).lt; omega)
        clear Bb
        have bd := (unhide Bd).below g11 (by have := (unhide Bd).lt; omega)
        clear Bd
        have bp := (unhide Bp).below g11 (by have := (unhide Bp).lt; omega)
        clear Bp
        have bq := (unhide Bq).below g11 (by have := (unhide Bq).lt; omega)
        clear Bq
        have bx := (unhide Bx).below g11 (by have := (unhide Bx).lt; omega)
        clear Bx
        have bz := (unhide Bz).below g11 (by have := (unhide Bz).lt; omega)
        clear Bz
        have hBV11 : Below W.heap.size W V11 := hBU10.trans (g11.mono (by have := hBU10.size; omega))
        have kk := HK.out V11 g11
        have k2 := kk.1
        have HK3 : Hid (∀ V, Below V11.heap.size V11 V → _) := fun V (hb : Below V11.heap.size V11 V) => (HK.out V (g11.trans (hb.mono g11.size))).2
        clear kk g11 HK
        obtain ⟨⟨d_0, d_1, d_2, d_3⟩, d_4, d_5, d_6, d_7⟩ := bd.cs
        obtain ⟨⟨z_0, z_1, z_2, z_3⟩, z_4, z_5, z_6, z_7⟩ := bz.cs
        have Bt := hide bt
        clear bt
        have Bc := hide bc
        clear bc
        have Bb := hide bb
        clear bb
        have Bd := hide bd
        clear bd
        have Bp := hide bp
        clear bp
        have Bq := hide bq
        clear bq
        have Bx := hide bx
        clear bx
        have Bz := hide bz
        clear bz
        go_wp2_with fail
        refine k2.mono ?_
        rintro e V12 ⟨rfl, g12⟩
        clear k2
        clear d_0 d_1 d_2 d_3 d_4 d_5 d_6 d_7
        clear z_0 z_1 z_2 z_3 z_4 z_5 z_6 z_7
        have sV12 := g12.size
        have bt := (unhide Bt).below g12 (by have := (unhide Bt).lt; omega)
        clear Bt
        have bc := (unhide Bc).below g12 (by have := (unhide Bc).lt; omega)
        clear Bc
        have bb := (unhide Bb).below g12 (by have := (unhide Bb).lt; omega)
        clear Bb
        have bd := (unhide Bd).below g12 (by have := (unhide Bd).lt; omega)
        clear Bd
        have bp := (unhide Bp).below g12 (by have := (unhide Bp).lt; omega)
        clear Bp
        have bq := (unhide Bq).below g12 (by have := (unhide Bq).lt; omega)
        clear Bq
        have bx := (unhide Bx).below g12 (by have := (unhide Bx).lt; omega)
        clear Bx
        have bz := (unhide Bz).below g12 (by have := (unhide Bz).lt; omega)
        clear Bz
        have hBV12 : Below W.heap.size W V12 := hBV11.trans (g12.mono (by have := hBV11.size; omega))
        have k3 := HK3.out V12 g12
        clear g12 HK3
        obtain ⟨⟨d_0, d_1, d_2, d_3⟩, d_4, d_5, d_6, d_7⟩ := bd.cs
        obtain ⟨⟨z_0, z_1, z_2, z_3⟩, z_4, z_5, z_6, z_7⟩ := bz.cs
        have Bt := hide bt
        clear bt
        have Bc := hide bc
        clear bc
        have Bb := hide bb
        clear bb
        have Bd := hide bd
        clear bd
        have Bp := hide bp
        clear bp
        have Bq := hide bq
        clear bq
        have Bx := hide bx
        clear bx
        have Bz := hide bz
        clear bz
        go_wp2_with fail
        refine k3.mono ?_
        rintro e V13 ⟨rfl, g13⟩
        clear k3
        clear d_0 d_1 d_2 d_3 d_4 d_5 d_6 d_7
        clear z_0 z_1 z_2 z_3 z_4 z_5 z_6 z_7
        have HB : Hid (Below W.heap.size W V13) := hBV12.trans (g13.mono hBV12.size)
        clear g13
        go_wp2_with fail
        all_goals go_ret
        all_goals exact ⟨rfl, HB.out⟩
end Go.Proofs.YtjdanfhbccpnpaaDoor

