import Derived.Test.YtjdanfhbccpnpaaBaMs
/- The law BaseBack, over contracts of base's functions. -/
namespace Go.Proofs.Ytjdanfhbccpnpaa
open Go.RowKit Go.Shelf

theorem make_len {n : Nat} {t : Tm (n + 1)} {h b : List Nd} (hw : Wl t) (hok : okT t = true) (hl : (code t).length ≤ 1048576) (hm : makeC t = some (h, b)) : 2 * (h.length + b.length + 1) ≤ 4194304 := by
  have key : ∀ {k : Nat} (u : Tm k) (c : List Nd), makeJ (headBad u.tv) (code u) (some c) = some (h, b) → h.length = (code u).length ∧ b.length = c.length := by
    intro k u c hj
    cases hbad : headBad u.tv with
    | true => rw [hbad] at hj; cases hj
    | false =>
      rw [hbad] at hj
      have hj' : some (clRen (code u) c (code u), clRen (code u) c c) = some (h, b) := hj
      cases hj'
      exact ⟨clRen_len _ _ _, clRen_len _ _ _⟩
  obtain ⟨x, kids⟩ := t
  unfold makeC at hm
  split at hm
  · split at hm
    · rename_i u v hkids
      have hkids' : kids = [u, v] := hkids
      subst hkids'
      have hk := ok_kids hok
      have hwk : ∀ z ∈ [u, v], Wl z := hw.2
      cases hcv : bodyC v with
      | none => rw [hcv] at hm; cases hm
      | some c =>
        rw [hcv] at hm
        obtain ⟨_, c2⟩ := body_fine (hwk v (by simp)) (hk.2 v (by simp)) hcv
        rw [code_succ] at hl
        simp only [List.flatMap_cons, List.flatMap_nil, List.append_nil, List.length_cons, List.length_append] at hl
        obtain ⟨e1, e2⟩ := key u c hm
        omega
    · cases hm
  · obtain ⟨e1, e2⟩ := key _ _ hm
    simp only [atomC, List.length_cons, List.length_nil] at e2
    omega
theorem plain_len {n : Nat} (th tb : Tm (n + 1)) : (plainR th tb).2.length ≤ (code th).length + (code tb).length + 1 := by
  unfold plainR
  split
  · split
    · split
      · show (code th).length ≤ _
        omega
      · show (1 : Nat) ≤ _
        omega
    · split
      · show (code th ++ code tb).length + 1 ≤ _
        rw [List.length_append]
        omega
      · show (1 : Nat) ≤ _
        omega
  · show (1 : Nat) ≤ _
    omega
/-- Numbers of 64 bits. -/
def numC (c : List Nd) : Prop := ∀ x ∈ c, -9223372036854775808 ≤ x.2.1 ∧ x.2.1 ≤ 9223372036854775807
theorem clRen_num (h b c : List Nd) (hl : h.length + b.length ≤ 1099511627776) (hc : numC c) : numC (clRen h b c) := by
  intro y hy
  unfold clRen at hy
  obtain ⟨x, hx, hxy⟩ := List.mem_flatMap.1 hy
  unfold subN at hxy
  split at hxy
  · simp only [renN, List.mem_singleton] at hxy
    subst hxy
    have h1 := clVars_len h b
    have h2 : (clVars h b).idxOf x.2.1 ≤ (clVars h b).length := List.idxOf_le_length
    show -9223372036854775808 ≤ 0 + ((clVars h b).idxOf x.2.1 : Int) ∧ 0 + ((clVars h b).idxOf x.2.1 : Int) ≤ 9223372036854775807
    omega
  · simp at hxy
    subst hxy
    exact hc _ hx
theorem make_num {n : Nat} {t : Tm (n + 1)} {h b : List Nd} (hw : Wl t) (hok : okT t = true) (hl : (code t).length ≤ 1048576) (hn : numC (code t)) (hm : makeC t = some (h, b)) : numC h := by
  have key : ∀ {k : Nat} (u : Tm k) (c : List Nd), numC (code u) → (code u).length + c.length ≤ 1099511627776 → makeJ (headBad u.tv) (code u) (some c) = some (h, b) → numC h := by
    intro k u c hu hlc hj
    cases hbad : headBad u.tv with
    | true => rw [hbad] at hj; cases hj
    | false =>
      rw [hbad] at hj
      have hj' : some (clRen (code u) c (code u), clRen (code u) c c) = some (h, b) := hj
      cases hj'
      exact clRen_num _ _ _ hlc hu
  obtain ⟨x, kids⟩ := t
  unfold makeC at hm
  split at hm
  · split at hm
    · rename_i u v hkids
      have hkids' : kids = [u, v] := hkids
      subst hkids'
      have hk := ok_kids hok
      have hwk : ∀ z ∈ [u, v], Wl z := hw.2
      cases hcv : bodyC v with
      | none => rw [hcv] at hm; cases hm
      | some c =>
        rw [hcv] at hm
        obtain ⟨_, c2⟩ := body_fine (hwk v (by simp)) (hk.2 v (by simp)) hcv
        rw [code_succ] at hl hn
        simp only [List.flatMap_cons, List.flatMap_nil, List.append_nil, List.length_cons, List.length_append] at hl hn
        exact key u c (fun y hy => hn y (by simp [hy])) (by omega) hm
    · cases hm
  · exact key _ _ hn (by have : (atomC trueL).length = 1 := rfl; omega) hm
/-- What base's functions do, by what a base in memory is: Is X W v l: at v lies a base of the clauses l (id, head, body, in order), its own blocks are X. Needs m W: what base asks of the package variables, which lie below m. -/
structure BaseOps where
  Needs : Nat → World → Prop
  Is : (Nat → Prop) → World → Value → List (Int × List Nd × List Nd) → Prop
  needs : ∀ {m : Nat} {A B : World}, Needs m A → Below m A B → Needs m B
  is : ∀ {X : Nat → Prop} {A B : World} {v : Value} {l : List (Int × List Nd × List Nd)}, Is X A v l → Below A.heap.size A B → Is X B v l
  make : ∀ {n : Nat} (t : Tm (n + 1)) (m : Nat) (W : World), Needs m W → m ≤ W.heap.size → IsT W.heap.size W t → 2 * (code t).length ≤ 4194304 → n ≤ 274877906944 →
    Calls Try.prog 7 #[t.tv.val] W fun e W' => CAns (2 * n + 8) W.heap.size W.heap.size (makeR t).1 (makeR t).2.1 (makeR t).2.2 e W' ∧ Below W.heap.size W W'
  plain : ∀ {n : Nat} (th tb : Tm (n + 1)) (m : Nat) (W : World), Needs m W → m ≤ W.heap.size → IsT W.heap.size W th → IsT W.heap.size W tb → 2 * ((code th).length + (code tb).length + 1) ≤ 4194304 → n ≤ 274877906944 →
    Calls Try.prog 13 #[clV th.tv tb.tv] W fun e W' => TAns (2 * n + 8) W.heap.size W.heap.size (plainR th tb).1 (plainR th tb).2 e W' ∧ Below W.heap.size W W'
  new : ∀ (m : Nat) (W : World), Needs m W → m ≤ W.heap.size → Calls Try.prog 6 #[] W fun e W' => ∃ v X, e = .returned v ∧ Is X W' v [] ∧ (∀ b, X b → W.heap.size ≤ b ∧ b < W'.heap.size) ∧ Below W.heap.size W W'
  add : ∀ {n : Nat} (th tb : Tm (n + 1)) (first : Bool) (m : Nat) (X : Nat → Prop) (v : Value) (W : World), Needs m W → m ≤ W.heap.size → Is X W v [] → IsT W.heap.size W th → IsT W.heap.size W tb → 2 * ((code th).length + (code tb).length + 1) ≤ 4194304 → (plainR th tb).1 = 0 → numC (code th) → n ≤ 274877906944 →
    Calls Try.prog 8 #[v, clV th.tv tb.tv, .bool first] W fun e W' => ∃ X' : Nat → Prop, e = .returned (.tuple #[.int .i64 1, .int .i64 0]) ∧ Is X' W' v [(1, code th, code tb)] ∧ (∀ b, X' b → X b ∨ W.heap.size ≤ b) ∧ GrB X W.heap.size W W'
  get : ∀ (h b : List Nd) (m : Nat) (X : Nat → Prop) (v : Value) (W : World), Needs m W → m ≤ W.heap.size → Is X W v [(1, h, b)] →
    Calls Try.prog 14 #[v, .int .i64 1] W fun e W' => CAns 1099511627776 W.heap.size W.heap.size 0 h b e W' ∧ Below W.heap.size W W'
  look : ∀ (m : Nat) (X : Nat → Prop) (v : Value) (W : World), Needs m W → m ≤ W.heap.size → Is X W v [(1, atomC [112], atomC trueL)] →
    Calls Try.prog 16 #[v, (atomV ⟨#[112]⟩).val] W fun e W' => ∃ a cap, e = .returned (.tuple #[.slice a 1 cap, .int .i64 0]) ∧ Below W.heap.size W W'
theorem makeR_ok {n : Nat} {t : Tm (n + 1)} (h : (makeR t).1 = 0) : okT t = true ∧ makeC t = some (makeR t).2 := by
  unfold makeR at h ⊢
  by_cases ok : okT t = true
  · rw [if_pos ok] at h ⊢
    refine ⟨ok, ?_⟩
    cases hm : makeC t with
    | none => rw [hm] at h; exact absurd h (by decide)
    | some c => rfl
  · rw [if_neg ok] at h
    exact absurd h (by decide)
theorem makeR_of {n : Nat} {t : Tm (n + 1)} {h b : List Nd} (ok : okT t = true) (hm : makeC t = some (h, b)) : makeR t = (0, h, b) := by
  unfold makeR
  rw [if_pos ok, hm]
  rfl
/-- Two terms in memory, of one number of storeys. -/
theorem holds_two_terms {D : Nat} {S S' : Nat → Prop} {W : World} {x y : TV} {h b : List Nd} (p : HoldsS D S W x.val h) (q : HoldsS D S' W y.val b) (hD : D + 1 ≤ 2199023255552 := by first | omega | exact upto_one _ (by omega)) :
    ∃ th tb : Tm (D + 1), x = th.tv ∧ y = tb.tv ∧ IsT W.heap.size W th ∧ IsT W.heap.size W tb ∧ code th = h ∧ code tb = b := by
  obtain ⟨th, a1, a2, -, a4⟩ := p (D + 1) (by omega) hD
  obtain ⟨tb, b1, b2, -, b4⟩ := q (D + 1) (by omega) hD
  exact ⟨th, tb, tv_inj a1, tv_inj b1, a2, b2, a4, b4⟩
set_option maxRecDepth 100000 in
set_option maxHeartbeats 8000000 in
theorem baseBack_any (B : BaseOps) (m : Nat) (HTH : Hid (∀ w : World, B.Needs m w → m ≤ w.heap.size → Calls Try.prog 5 #[] w fun e W' => e = .returned (.bool true) ∧ Below w.heap.size w W')) {n : Nat} (t : Tm (n + 1)) (W : World) (hN : B.Needs m W) (hm : m ≤ W.heap.size) (hT : IsT W.heap.size W t) (hl : (code t).length ≤ 1048576) (hnum : numC (code t)) (hn20 : n ≤ 1048576 := by omega) :
    Calls Try.prog 4 #[t.tv.val] W fun e W' => e = .returned (.bool true) ∧ Below W.heap.size W W' := by
  have HN : Hid (∀ V, Below W.heap.size W V → B.Needs m V ∧ m ≤ V.heap.size) := fun V hb => ⟨B.needs hN (hb.mono hm), Nat.le_trans hm hb.size⟩
  have HT : Hid (∀ V, Below W.heap.size W V → IsT V.heap.size V t) := fun V hb => (hT.below hb).mono hb.size
  have HW : Hid (Wl t) := hT.wl
  obtain ⟨W1, eW1, gW1, lW1, bt⟩ : ∃ V', W.alloc (.cells #[.int .i64 t.tv.k, .int .i64 t.tv.N, .string t.tv.s, .slice t.tv.a t.tv.len t.tv.cap] 24) = V' ∧ Below W.heap.size W V' ∧ W.heap.size + 1 ≤ V'.heap.size ∧ BoxT V' W.heap.size t.tv := ⟨_, rfl, (Below.refl _ _).alloc (Nat.le_refl _) _, by simp, BoxT.new W t.tv⟩
  have hBW1 : Below W.heap.size W W1 := gW1
  clear gW1 hN hT
  have h1 := HTH.out W1 (HN.out W1 hBW1).1 (HN.out W1 hBW1).2
  have HL : Hid ((code t).length ≤ 1048576) := hl
  have HNUM : Hid (numC (code t)) := hnum
  clear hl hnum
  simp only [TV.val]
  have Bt := hide bt
  clear bt
  go_enter Try.func4, Try.ntmps4
  go_wp2_with fail
  try rw [eW1]
  refine h1.mono ?_
  rintro e V1 ⟨rfl, g1⟩
  clear h1 eW1 HTH
  have sV1 := g1.size
  have bt := (unhide Bt).below g1 (by have := (unhide Bt).lt; omega)
  clear Bt
  have hBV1 : Below W.heap.size W V1 := hBW1.trans (g1.mono (by have := hBW1.size; omega))
  have h2 := B.make t m V1 (HN.out V1 hBV1).1 (HN.out V1 hBV1).2 (HT.out V1 hBV1) (by have := HL.out; omega) (by omega)
  have HMR : Hid ((makeR t).1 = 0 → okT t = true ∧ makeC t = some (makeR t).2) := makeR_ok
  generalize makeR t = mr at h2 HMR
  obtain ⟨me, mh, mb⟩ := mr
  simp only [TV.val, CAns, clV] at h2
  have t_0 := bt.c0
  have t_1 := bt.c1
  have t_2 := bt.c2
  have t_3 := bt.c3
  have Bt := hide bt
  clear bt
  go_wp2_with fail
  refine h2.mono ?_
  rintro e V2 ⟨⟨D2, x2, y2, rfl, q2, r2⟩, g2⟩
  clear h2
  clear t_0 t_1 t_2 t_3
  have sV2 := g2.size
  have bt := (unhide Bt).below g2 (by have := (unhide Bt).lt; omega)
  clear Bt
  have hBV2 : Below W.heap.size W V2 := hBV1.trans (g2.mono (by have := hBV1.size; omega))
  clear bt
  obtain ⟨th, tb, ex, ey, hth, htb, ch, cb⟩ := holds_two_terms q2 r2
  clear q2 r2 g1 g2 HT
  have HX : Hid (x2 = th.tv ∧ y2 = tb.tv) := ⟨ex, ey⟩
  have HC : Hid (code th = mh ∧ code tb = mb) := ⟨ch, cb⟩
  clear ex ey ch cb
  have HTH : Hid (∀ V, Below V2.heap.size V2 V → IsT V.heap.size V th ∧ IsT V.heap.size V tb ∧ IsT V2.heap.size V th ∧ IsT V2.heap.size V tb) := fun V hb => ⟨(hth.below hb).mono hb.size, (htb.below hb).mono hb.size, hth.below hb, htb.below hb⟩
  have HWL : Hid (Wl th ∧ Wl tb) := ⟨hth.wl, htb.wl⟩
  clear hth htb
  obtain ⟨U2, eU2, gU2, lU2, bnew⟩ : ∃ V', V2.alloc (.cells #[.int .i64 x2.k, .int .i64 x2.N, .string x2.s, .slice x2.a x2.len x2.cap, .int .i64 y2.k, .int .i64 y2.N, .string y2.s, .slice y2.a y2.len y2.cap] 30) = V' ∧ Below V2.heap.size V2 V' ∧ V2.heap.size + 1 ≤ V'.heap.size ∧ BoxC V' V2.heap.size x2 y2 := ⟨_, rfl, (Below.refl _ _).alloc (Nat.le_refl _) _, by simp, BoxC.new V2 x2 y2⟩
  have sU2 := gU2.size
  have hBU2 : Below W.heap.size W U2 := hBV2.trans (gU2.mono (by have := hBV2.size; omega))
  have bc := bnew
  clear bnew
  have kU2 : Below V2.heap.size V2 U2 := gU2
  clear gU2
  by_cases hme : me = 0
  case neg =>
    clear bc HTH HC HX HWL kU2
    clear HMR HL HW HN hm HNUM
    have hne : ¬ (me = 0) := hme
    have hne' : (me == 0) = false := by simpa using hme
    have hne2 : (me != 0) = true := by simpa using hme
    have HB := hide hBU2
    go_wp2_with fail
    try rw [eU2]
    all_goals go_ret
    all_goals exact ⟨rfl, HB.out⟩
  subst hme
  obtain ⟨hok, hmk⟩ := HMR.out rfl
  have hback := make_back HW.out hok (by have := HL.out; omega) hmk th tb HWL.out.1 HWL.out.2 HC.out.1 HC.out.2
  have hlen := make_len HW.out hok HL.out hmk
  have hlen2 : 2 * ((code th).length + (code tb).length + 1) ≤ 4194304 := by rw [HC.out.1, HC.out.2]; exact hlen
  have HNH : Hid (numC (code th)) := by show numC _; rw [HC.out.1]; exact make_num HW.out hok HL.out HNUM.out hmk
  obtain ⟨-, -, hp0, hpm⟩ := hback
  clear HMR hmk hok HL HW HNUM
  have HADD := hide hp0
  have HLEN : Hid (2 * ((code th).length + (code tb).length + 1) ≤ 4194304) := hlen2
  have HPL : Hid ((plainR th tb).2.length ≤ (code th).length + (code tb).length + 1) := plain_len th tb
  have h3 := B.plain th tb m U2 (HN.out U2 hBU2).1 (HN.out U2 hBU2).2 (HTH.out U2 kU2).1 (HTH.out U2 kU2).2.1 hlen2 (by have := D2.2; omega)
  have HPM : Hid (∀ {k : Nat} (p : Tm (k + 1)), Wl p → code p = (plainR th tb).2 → okT p = true ∧ makeC p = some (mh, mb)) := hpm
  clear hpm hlen hlen2
  rw [hp0] at h3
  clear hp0
  generalize (plainR th tb).2 = pc at h3 HPM HPL
  have hx := HX.out.1
  have hy := HX.out.2
  rw [← hx, ← hy] at h3
  clear hx hy
  simp only [TAns, clV, TV.val] at h3
  obtain ⟨⟨c_0, c_1, c_2, c_3⟩, c_4, c_5, c_6, c_7⟩ := bc.cs
  have Bc := hide bc
  clear bc
  go_wp2_with fail
  try rw [eU2]
  refine h3.mono ?_
  rintro e V3 ⟨⟨D3, x3, rfl, q3⟩, g3⟩
  clear h3 eU2
  clear c_0 c_1 c_2 c_3 c_4 c_5 c_6 c_7
  have sV3 := g3.size
  have bc := (unhide Bc).below g3 (by have := (unhide Bc).lt; omega)
  clear Bc
  have hBV3 : Below W.heap.size W V3 := hBU2.trans (g3.mono (by have := hBU2.size; omega))
  have kV3 : Below V2.heap.size V2 V3 := kU2.trans (g3.mono (by have := kU2.size; omega))
  clear g3
  obtain ⟨tp, ex3, hTp, -, cp⟩ := q3 (D3.1 + 1) (by omega) (by have := D3.2; have := D2.2; omega)
  clear q3
  have HX3 : Hid (x3 = tp.tv) := tv_inj ex3
  clear ex3
  obtain ⟨okp, mkp⟩ := HPM.out tp hTp.wl cp
  have HMK := hide (makeR_of okp mkp)
  clear okp mkp HPM
  have HLP : Hid (2 * (code tp).length ≤ 4194304) := by have h1 := HPL.out; have h2 := HLEN.out; show 2 * (code tp).length ≤ 4194304; rw [cp]; omega
  clear cp HPL
  have HTP : Hid (∀ V, Below V3.heap.size V3 V → IsT V.heap.size V tp) := fun V hb => (hTp.below hb).mono hb.size
  clear hTp
  have Bc := hide bc
  clear bc
  obtain ⟨U3, eU3, gU3, lU3, bnew⟩ : ∃ V', V3.alloc (.cells #[.int .i64 x3.k, .int .i64 x3.N, .string x3.s, .slice x3.a x3.len x3.cap] 24) = V' ∧ Below V3.heap.size V3 V' ∧ V3.heap.size + 1 ≤ V'.heap.size ∧ BoxT V' V3.heap.size x3 := ⟨_, rfl, (Below.refl _ _).alloc (Nat.le_refl _) _, by simp, BoxT.new V3 x3⟩
  have sU3 := gU3.size
  have bc := (unhide Bc).below gU3 (by have := (unhide Bc).lt; omega)
  clear Bc
  have hBU3 : Below W.heap.size W U3 := hBV3.trans (gU3.mono (by have := hBV3.size; omega))
  have bp := bnew
  clear bnew
  have kU3 : Below V2.heap.size V2 U3 := kV3.trans (gU3.mono (by have := kV3.size; omega))
  have h4 := B.make tp m U3 (HN.out U3 hBU3).1 (HN.out U3 hBU3).2 (HTP.out U3 gU3) HLP.out (by have := D3.2; have := D2.2; omega)
  clear gU3 HTP HLP kV3
  rw [HMK.out] at h4
  clear HMK
  have hx := HX3.out
  rw [← hx] at h4
  clear hx HX3
  simp only [CAns, clV, TV.val] at h4
  have p_0 := bp.c0
  have p_1 := bp.c1
  have p_2 := bp.c2
  have p_3 := bp.c3
  have Bc := hide bc
  clear bc
  have Bp := hide bp
  clear bp
  go_wp2_with fail
  try rw [eU3]
  refine h4.mono ?_
  rintro e V4 ⟨⟨D4, x4, y4, rfl, q4, r4⟩, g4⟩
  clear h4 eU3
  clear p_0 p_1 p_2 p_3
  have sV4 := g4.size
  have bc := (unhide Bc).below g4 (by have := (unhide Bc).lt; omega)
  clear Bc
  have bp := (unhide Bp).below g4 (by have := (unhide Bp).lt; omega)
  clear Bp
  have hBV4 : Below W.heap.size W V4 := hBU3.trans (g4.mono (by have := hBU3.size; omega))
  clear bp
  have kV4 : Below V2.heap.size V2 V4 := kU3.trans (g4.mono (by have := kU3.size; omega))
  clear g4
  have Q4 := hide q4
  have R4 := hide r4
  clear q4 r4
  have Bc := hide bc
  clear bc
  obtain ⟨U4, eU4, gU4, lU4, bnew⟩ : ∃ V', V4.alloc (.cells #[.int .i64 x4.k, .int .i64 x4.N, .string x4.s, .slice x4.a x4.len x4.cap, .int .i64 y4.k, .int .i64 y4.N, .string y4.s, .slice y4.a y4.len y4.cap] 30) = V' ∧ Below V4.heap.size V4 V' ∧ V4.heap.size + 1 ≤ V'.heap.size ∧ BoxC V' V4.heap.size x4 y4 := ⟨_, rfl, (Below.refl _ _).alloc (Nat.le_refl _) _, by simp, BoxC.new V4 x4 y4⟩
  have sU4 := gU4.size
  have bc := (unhide Bc).below gU4 (by have := (unhide Bc).lt; omega)
  clear Bc
  have Q4' := hide ((unhide Q4).below gU4)
  clear Q4
  have Q4 := Q4'
  clear Q4'
  have R4' := hide ((unhide R4).below gU4)
  clear R4
  have R4 := R4'
  clear R4'
  have hBU4 : Below W.heap.size W U4 := hBV4.trans (gU4.mono (by have := hBV4.size; omega))
  have bd := bnew
  clear bnew
  have kU4 : Below V2.heap.size V2 U4 := kV4.trans (gU4.mono (by have := kV4.size; omega))
  clear gU4 kV4
  have HS : Hid (∀ V, Below V2.heap.size V2 V → ∀ {D : Nat} {S : Nat → Prop} {z : TV}, D ≤ 1099511627776 → (HoldsS D S V z.val mh → Calls Try.prog 12 #[x2.val, z.val] V fun e W' => e = .returned (.bool true) ∧ Below V.heap.size V W') ∧ (HoldsS D S V z.val mh → Calls Try.prog 12 #[z.val, x2.val] V fun e W' => e = .returned (.bool true) ∧ Below V.heap.size V W') ∧ (HoldsS D S V z.val mb → Calls Try.prog 12 #[y2.val, z.val] V fun e W' => e = .returned (.bool true) ∧ Below V.heap.size V W') ∧ (HoldsS D S V z.val mb → Calls Try.prog 12 #[z.val, y2.val] V fun e W' => e = .returned (.bool true) ∧ Below V.heap.size V W')) := by
    intro V hb D S z hDb
    have hD2 := D2.2
    rw [HX.out.1, HX.out.2]
    have e1 := mix_of (HTH.out V hb).1 (Nat.le_refl _) V.heap.size
    have e2 := mix_of (HTH.out V hb).2.1 (Nat.le_refl _) V.heap.size
    rw [HC.out.1] at e1
    rw [HC.out.2] at e2
    refine ⟨fun h => ?_, fun h => ?_, fun h => ?_, fun h => ?_⟩
    · have := same_shared e1 h; simpa using this
    · have := same_shared h e1; simpa using this
    · have := same_shared e2 h; simpa using this
    · have := same_shared h e2; simpa using this
  have h5 := (HS.out U4 kU4 (by have := D4.2; have := D3.2; have := D2.2; omega)).1 (unhide Q4)
  simp only [TV.val] at h5
  obtain ⟨⟨c_0, c_1, c_2, c_3⟩, c_4, c_5, c_6, c_7⟩ := bc.cs
  obtain ⟨⟨d_0, d_1, d_2, d_3⟩, d_4, d_5, d_6, d_7⟩ := bd.cs
  have Bc := hide bc
  clear bc
  have Bd := hide bd
  clear bd
  go_wp2_with fail
  try rw [eU4]
  refine h5.mono ?_
  rintro e V5 ⟨rfl, g5⟩
  clear h5 eU4
  clear c_0 c_1 c_2 c_3 c_4 c_5 c_6 c_7
  clear d_0 d_1 d_2 d_3 d_4 d_5 d_6 d_7
  have sV5 := g5.size
  have bc := (unhide Bc).below g5 (by have := (unhide Bc).lt; omega)
  clear Bc
  have bd := (unhide Bd).below g5 (by have := (unhide Bd).lt; omega)
  clear Bd
  have Q4' := hide ((unhide Q4).below g5)
  clear Q4
  have Q4 := Q4'
  clear Q4'
  have R4' := hide ((unhide R4).below g5)
  clear R4
  have R4 := R4'
  clear R4'
  have hBV5 : Below W.heap.size W V5 := hBU4.trans (g5.mono (by have := hBU4.size; omega))
  have kV5 : Below V2.heap.size V2 V5 := kU4.trans (g5.mono (by have := kU4.size; omega))
  clear g5 Q4
  have h6 := (HS.out V5 kV5 (by have := D4.2; have := D3.2; have := D2.2; omega)).2.2.1 (unhide R4)
  simp only [TV.val] at h6
  obtain ⟨⟨c_0, c_1, c_2, c_3⟩, c_4, c_5, c_6, c_7⟩ := bc.cs
  obtain ⟨⟨d_0, d_1, d_2, d_3⟩, d_4, d_5, d_6, d_7⟩ := bd.cs
  have Bc := hide bc
  clear bc
  have Bd := hide bd
  clear bd
  go_wp2_with fail
  refine h6.mono ?_
  rintro e V6 ⟨rfl, g6⟩
  clear h6
  clear c_0 c_1 c_2 c_3 c_4 c_5 c_6 c_7
  clear d_0 d_1 d_2 d_3 d_4 d_5 d_6 d_7
  have sV6 := g6.size
  have bc := (unhide Bc).below g6 (by have := (unhide Bc).lt; omega)
  clear Bc
  have bd := (unhide Bd).below g6 (by have := (unhide Bd).lt; omega)
  clear Bd
  have R4' := hide ((unhide R4).below g6)
  clear R4
  have R4 := R4'
  clear R4'
  have hBV6 : Below W.heap.size W V6 := hBV5.trans (g6.mono (by have := hBV5.size; omega))
  have kV6 : Below V2.heap.size V2 V6 := kV5.trans (g6.mono (by have := kV5.size; omega))
  clear g6 R4
  clear bd
  have HBC : Hid (U2.heap.size ≤ V6.heap.size ∧ V2.heap.size < V6.heap.size) := ⟨by omega, by omega⟩
  have h7 := B.new m V6 (HN.out V6 hBV6).1 (HN.out V6 hBV6).2
  have Bc := hide bc
  clear bc
  go_wp2_with fail
  refine h7.mono ?_
  rintro e V7 ⟨v, X, rfl, i7, hX, g7⟩
  clear h7
  have sV7 := g7.size
  have bc := (unhide Bc).below g7 (by have := (unhide Bc).lt; omega)
  clear Bc
  have hBV7 : Below W.heap.size W V7 := hBV6.trans (g7.mono (by have := hBV6.size; omega))
  have kV7 : Below V2.heap.size V2 V7 := kV6.trans (g7.mono (by have := kV6.size; omega))
  have h8 := B.add th tb true m X v V7 (HN.out V7 hBV7).1 (HN.out V7 hBV7).2 i7 (HTH.out V7 kV7).1 (HTH.out V7 kV7).2.1 HLEN.out HADD.out HNH.out (by have := D2.2; omega)
  clear i7 HLEN HADD HNH
  have hx := HX.out.1
  have hy := HX.out.2
  rw [← hx, ← hy, HC.out.1, HC.out.2] at h8
  clear hx hy
  simp only [clV] at h8
  have HXX : Hid (∀ b, X b → V6.heap.size ≤ b ∧ b < V7.heap.size) := hX
  clear hX g7
  obtain ⟨⟨c_0, c_1, c_2, c_3⟩, c_4, c_5, c_6, c_7⟩ := bc.cs
  have Bc := hide bc
  clear bc
  go_wp2_with fail
  refine h8.mono ?_
  rintro e V8 ⟨X', rfl, i8, -, g8'⟩
  clear h8
  clear c_0 c_1 c_2 c_3 c_4 c_5 c_6 c_7
  have g8 : Below V6.heap.size V7 V8 := ⟨g8'.os, g8'.tape, g8'.output, g8'.size, fun k hk => g8'.block k (by omega) fun hx => by have := (HXX.out k hx).1; omega⟩
  have sV8 := g8.size
  clear g8' HXX
  have bc := (unhide Bc).below g8 (by have := HBC.out; omega)
  clear Bc
  have hBV8 : Below W.heap.size W V8 := hBV7.trans (g8.mono (by have := hBV6.size; omega))
  have kV8 : Below V2.heap.size V2 V8 := kV7.trans (g8.mono (by have := kV6.size; omega))
  clear g8
  have h9 := B.get mh mb m X' v V8 (HN.out V8 hBV8).1 (HN.out V8 hBV8).2 i8
  clear i8
  simp only [CAns, clV] at h9
  have Bc := hide bc
  clear bc
  go_wp2_with fail
  refine h9.mono ?_
  rintro e V9 ⟨⟨D9, x9, y9, rfl, q9, r9⟩, g9⟩
  clear h9
  have sV9 := g9.size
  have bc := (unhide Bc).below g9 (by have := (unhide Bc).lt; omega)
  clear Bc
  have hBV9 : Below W.heap.size W V9 := hBV8.trans (g9.mono (by have := hBV8.size; omega))
  have kV9 : Below V2.heap.size V2 V9 := kV8.trans (g9.mono (by have := kV8.size; omega))
  clear g9
  have Q9 := hide q9
  have R9 := hide r9
  clear q9 r9
  have Bc := hide bc
  clear bc
  obtain ⟨U9, eU9, gU9, lU9, bnew⟩ : ∃ V', V9.alloc (.cells #[.int .i64 x9.k, .int .i64 x9.N, .string x9.s, .slice x9.a x9.len x9.cap, .int .i64 y9.k, .int .i64 y9.N, .string y9.s, .slice y9.a y9.len y9.cap] 30) = V' ∧ Below V9.heap.size V9 V' ∧ V9.heap.size + 1 ≤ V'.heap.size ∧ BoxC V' V9.heap.size x9 y9 := ⟨_, rfl, (Below.refl _ _).alloc (Nat.le_refl _) _, by simp, BoxC.new V9 x9 y9⟩
  have sU9 := gU9.size
  have bc := (unhide Bc).below gU9 (by have := (unhide Bc).lt; omega)
  clear Bc
  have Q9' := hide ((unhide Q9).below gU9)
  clear Q9
  have Q9 := Q9'
  clear Q9'
  have R9' := hide ((unhide R9).below gU9)
  clear R9
  have R9 := R9'
  clear R9'
  have hBU9 : Below W.heap.size W U9 := hBV9.trans (gU9.mono (by have := hBV9.size; omega))
  have bx := bnew
  clear bnew
  have kU9 : Below V2.heap.size V2 U9 := kV9.trans (gU9.mono (by have := kV9.size; omega))
  clear gU9
  have h10 := (HS.out U9 kU9 (by have := D9.2; omega)).2.1 (unhide Q9)
  simp only [TV.val] at h10
  obtain ⟨⟨c_0, c_1, c_2, c_3⟩, c_4, c_5, c_6, c_7⟩ := bc.cs
  obtain ⟨⟨x_0, x_1, x_2, x_3⟩, x_4, x_5, x_6, x_7⟩ := bx.cs
  have Bc := hide bc
  clear bc
  have Bx := hide bx
  clear bx
  go_wp2_with fail
  try rw [eU9]
  refine h10.mono ?_
  rintro e V10 ⟨rfl, g10⟩
  clear h10 eU9
  clear c_0 c_1 c_2 c_3 c_4 c_5 c_6 c_7
  clear x_0 x_1 x_2 x_3 x_4 x_5 x_6 x_7
  have sV10 := g10.size
  have bc := (unhide Bc).below g10 (by have := (unhide Bc).lt; omega)
  clear Bc
  have bx := (unhide Bx).below g10 (by have := (unhide Bx).lt; omega)
  clear Bx
  have Q9' := hide ((unhide Q9).below g10)
  clear Q9
  have Q9 := Q9'
  clear Q9'
  have R9' := hide ((unhide R9).below g10)
  clear R9
  have R9 := R9'
  clear R9'
  have hBV10 : Below W.heap.size W V10 := hBU9.trans (g10.mono (by have := hBU9.size; omega))
  have kV10 : Below V2.heap.size V2 V10 := kU9.trans (g10.mono (by have := kU9.size; omega))
  clear g10 Q9
  have h11 := (HS.out V10 kV10 (by have := D9.2; omega)).2.2.2 (unhide R9)
  simp only [TV.val] at h11
  obtain ⟨⟨c_0, c_1, c_2, c_3⟩, c_4, c_5, c_6, c_7⟩ := bc.cs
  obtain ⟨⟨x_0, x_1, x_2, x_3⟩, x_4, x_5, x_6, x_7⟩ := bx.cs
  have Bc := hide bc
  clear bc
  have Bx := hide bx
  clear bx
  go_wp2_with fail
  refine h11.mono ?_
  rintro e V11 ⟨rfl, g11⟩
  clear h11
  have HB : Hid (Below W.heap.size W V11) := hBV10.trans (g11.mono (by have := hBV10.size; omega))
  clear g11
  go_wp2_with fail
  all_goals go_ret
  all_goals exact ⟨rfl, HB.out⟩
end Go.Proofs.Ytjdanfhbccpnpaa

