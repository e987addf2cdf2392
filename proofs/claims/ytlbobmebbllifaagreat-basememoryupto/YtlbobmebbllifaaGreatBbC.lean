import Derived.Test.YtlbobmebbllifaaGreatBbBs
import Derived.Test.YtlbobmebbllifaaGreatLr
/- base.makeBody. (Written by wip/makeb6gen.py.) -/
namespace Go.Proofs.YtlbobmebbllifaaGreat
open Go.RowKit Go.Shelf
theorem nameL_and : (⟨#[44]⟩ : ByteArray).toList = [44] := by decide +kernel
theorem nameL_or : (⟨#[59]⟩ : ByteArray).toList = [59] := by decide +kernel
theorem nameL_then : (⟨#[45, 62]⟩ : ByteArray).toList = [45, 62] := by decide +kernel
theorem Tryz.infoTP : (Tryz.prog.info? 65).map (fun i => (i.zero, i.size, i.bytes)) = some (some (.pointer none), 1, 8) := by kernel_rfl
def StkP (B g cap : Nat) (W : World) (S : List Value) : Prop := W.ownsRow B 65 1 (.slice (some ⟨g, 0, none⟩) S.length cap) S.length S
theorem StkP.blk {B g cap : Nat} {W : World} {S : List Value} (h : StkP B g cap W S) : B ≤ g ∧ S.length ≤ cap ∧ ∃ cur, W.heap[g]? = some (.cells cur 65 (0, 0)) ∧ cap ≤ maxLen ∧ cur.size = cap ∧ cur.toList.take S.length = S := by
 obtain ⟨h1, h2⟩ := h
 rcases h2 with ⟨h2, _⟩ | ⟨g', cap', cur, h2, h3, h4, h5, h6, h7, h8⟩
 ·cases h2
 ·simp only [Value.slice.injEq, Option.some.injEq, Addr.mk.injEq, and_true, true_and] at h2
  obtain ⟨rfl, rfl⟩ := h2
  exact ⟨h3, h5, cur, h4, h6, by omega, by simpa using h8⟩
theorem stkP_mk {B g cap : Nat} {W : World} {S : List Value} {cur : Array Value} (h3 : B ≤ g) (h5 : S.length ≤ cap) (h4 : W.heap[g]? = some (.cells cur 65 (0, 0))) (h6 : cap ≤ maxLen) (h7 : cur.size = cap) (h8 : cur.toList.take S.length = S) : StkP B g cap W S :=
 ⟨by simp, .inr ⟨g, cap, cur, rfl, h3, h4, h5, h6, by omega, by simpa using h8⟩⟩
theorem StkP.kept {B g cap : Nat} {W W' : World} {S : List Value} (h : StkP B g cap W S) (hk : W'.heap[g]? = W.heap[g]?) : StkP B g cap W' S := by
 obtain ⟨h1, h2, cur, h3, h4, h5, h6⟩ := h.blk
 exact stkP_mk h1 h2 (hk.trans h3) h4 h5 h6
theorem StkP.lt {B g cap : Nat} {W : World} {S : List Value} (h : StkP B g cap W S) : g < W.heap.size := by
 obtain ⟨_, _, cur, h3, _⟩ := h.blk
 exact (Array.getElem?_eq_some_iff.1 h3).1
theorem StkP.pop {B g cap : Nat} {W : World} {S : List Value} {e : Value} (h : StkP B g cap W (S ++ [e])) : StkP B g cap W S := by
 obtain ⟨h1, h2, cur, h3, h4, h5, h6⟩ := h.blk
 simp only [List.length_append, List.length_cons, List.length_nil] at h2 h6
 refine stkP_mk h1 (by omega) h3 h4 h5 ?_
 have := congrArg (List.take S.length) h6
 rw [List.take_take] at this
 simpa [Nat.min_eq_left (Nat.le_succ _)] using this
theorem StkP.top {B g cap : Nat} {W : World} {S : List Value} {e : Value} (h : StkP B g cap W (S ++ [e])) : W.cell? ⟨g, S.length, none⟩ = some e := by
 have h1 := World.ownsRow.cellAt h S.length (by simp)
 refine h1.trans ?_
 simp
theorem StkP.push2 {B g cap h : Nat} {W : World} {S : List Value} (hs : StkP B g cap W S) (p q : Value) (op : p.oneCell' = true) (oq : q.oneCell' = true) (hh : W.heap.size = h) (hS : (S.length + 2) * 8 ≤ 140737488355328) (hn : B ≤ W.heap.size) (ty : TypeId) :
  ∃ g' cap' X, (Builtin.append_ #[101, 101] ty #[.slice (some ⟨g, 0, none⟩) S.length cap, .slice (some ⟨h, 0, none⟩) 2 2]).run Tryz.prog (W.alloc (.cells #[p, q] 65)) = .ok (.slice (some ⟨g', 0, none⟩) (S.length + 2) cap') X ∧ StkP B g' cap' X (S ++ [p, q]) ∧ (W.alloc (.cells #[p, q] 65)).grownBy X (some g) := by
 obtain ⟨i0, hi, hz0, hz1, hz2⟩ := info_parts Tryz.infoTP
 have h1 := World.alloc_heap_new W (.cells #[p, q] 65)
 rw [hh] at h1
 have hs' : StkP B g cap (W.alloc (.cells #[p, q] 65)) S := hs.kept (Below.heap_alloc W _ g hs.lt)
 have hl : S.length + 2 ≤ maxLen := by unfold maxLen; omega
 obtain ⟨v', X, r1, r2, r3, r4⟩ := run_append_own (P := Tryz.prog) (W.alloc (.cells #[p, q] 65)) B 101 ty 65 i0 (.pointer none) 1 8 Tryz.underlying101 hi hz0 hz1 hz2 rfl (by omega) (.slice (some ⟨g, 0, none⟩) S.length cap) S.length S hs' ⟨h, 0, none⟩ 2 2 [p, q] (by simp) (fun j u hu => by
  match j, hu with
  | 0, hu => simp at hu; subst hu; simp [World.cell?, Addr.add, h1]
  | 1, hu => simp at hu; subst hu; simp [World.cell?, Addr.add, h1]
  | j + 2, hu => simp at hu) (fun u hu => by
  rcases List.mem_cons.1 hu with rfl | hu
  ·exact op
  ·simp at hu; subst hu; exact oq) hl hS (by simp; omega)
 rcases r2.2 with ⟨hnil, h0⟩ | ⟨g', cap', cur, rfl, q1, q2, q3, q4, q5, q6⟩
 ·omega
 ·refine ⟨g', cap', X, r1, ?_, r3⟩
  unfold StkP
  rw [List.length_append, List.length_cons, List.length_cons, List.length_nil]
  exact r2
theorem Pair.kept {A W : World} {b o B : Nat} {x : TV} {n : Nat} {u v : Tm n} (h : Pair A b o B x u v) (hk : ∀ k ∈ b :: B :: (blks u ++ blks v), W.heap[k]? = A.heap[k]?) (hs : A.heap.size ≤ W.heap.size) : Pair W b o B x u v := by
 obtain ⟨arr, h1, h2⟩ := h.blk
 have hb := hk b (by simp)
 have hB := hk B (by simp)
 have hu : ∀ k ∈ blks u, W.heap[k]? = A.heap[k]? := fun k hk' => hk k (by simp [hk'])
 have hv : ∀ k ∈ blks v, W.heap[k]? = A.heap[k]? := fun k hk' => hk k (by simp [hk'])
 exact ⟨h.xc.kept hb, h.xa, h.xl, h.xp, h.xs, h.spot.kept hb, ⟨arr, hB.trans h1, h2⟩, h.cu.kept hB, h.cv.kept hB, h.tu.keptL hs hu, h.tv.keptL hs hv, h.ru.kept hu, h.rv.kept hv, h.ap, h.nb, h.xe⟩
def MbA (v0 lf : Value) (a : Act) : Prop := ∃ f : Nat → Value, a = { tmps := #[v0, undef, .bool false, lf, f 4, f 5, f 6, f 7, f 8, f 9, f 10, f 11, f 12, f 13, f 14, f 15, f 16, f 17, f 18, f 19, f 20, f 21, f 22, f 23, f 24, f 25, f 26, f 27, f 28, f 29, f 30, f 31, f 32, f 33, f 34, f 35, f 36, f 37, f 38, f 39, f 40, f 41, f 42, f 43, f 44, f 45, f 46, f 47, f 48, f 49, f 50, f 51, f 52, f 53, f 54, f 55, f 56, f 57, f 58, f 59, f 60, f 61, f 62, f 63, f 64, f 65, f 66, f 67, f 68, f 69], defers := [] }
theorem mbA_of {v0 lf u4 u5 u6 u7 u8 u9 u10 u11 u12 u13 u14 u15 u16 u17 u18 u19 u20 u21 u22 u23 u24 u25 u26 u27 u28 u29 u30 u31 u32 u33 u34 u35 u36 u37 u38 u39 u40 u41 u42 u43 u44 u45 u46 u47 u48 u49 u50 u51 u52 u53 u54 u55 u56 u57 u58 u59 u60 u61 u62 u63 u64 u65 u66 u67 u68 u69 : Value} : MbA v0 lf { tmps := #[v0, undef, .bool false, lf, u4, u5, u6, u7, u8, u9, u10, u11, u12, u13, u14, u15, u16, u17, u18, u19, u20, u21, u22, u23, u24, u25, u26, u27, u28, u29, u30, u31, u32, u33, u34, u35, u36, u37, u38, u39, u40, u41, u42, u43, u44, u45, u46, u47, u48, u49, u50, u51, u52, u53, u54, u55, u56, u57, u58, u59, u60, u61, u62, u63, u64, u65, u66, u67, u68, u69], defers := [] } := ⟨fun i => ([u4, u5, u6, u7, u8, u9, u10, u11, u12, u13, u14, u15, u16, u17, u18, u19, u20, u21, u22, u23, u24, u25, u26, u27, u28, u29, u30, u31, u32, u33, u34, u35, u36, u37, u38, u39, u40, u41, u42, u43, u44, u45, u46, u47, u48, u49, u50, u51, u52, u53, u54, u55, u56, u57, u58, u59, u60, u61, u62, u63, u64, u65, u66, u67, u68, u69][i - 4]?).getD undef, rfl⟩
theorem stands_var {n w0 b o : Nat} {N : Int} {s : ByteArray} {a : Option Addr} {len cap : Nat} {W : World} (hl : len = 0) (hcp : cap = 0) (hsl : s.size ≤ 9223372036854775807) (hsp : Spot W b o) (hlim : n + 2 ≤ 2199023255552) (L : List Nat) :
  TurnP w0 b o L W (set4 (W.alloc (.cells #[.int .i64 1, .int .i64 N, .string s, .slice a len cap] 24)) b o (compV ⟨#[99, 97, 108, 108]⟩ (some ⟨W.heap.size, 0, none⟩) 1 1)) ∧ StandsB (n + 1) b o L W.heap.size (set4 (W.alloc (.cells #[.int .i64 1, .int .i64 N, .string s, .slice a len cap] 24)) b o (compV ⟨#[99, 97, 108, 108]⟩ (some ⟨W.heap.size, 0, none⟩) 1 1)) ((4, 0, callL, 1) :: code (n := n + 1) ((⟨1, N, s, a, len, cap⟩, []) : TV × List (Tm n))) := by
 have hb1 : Below W.heap.size W (W.alloc (.cells #[.int .i64 1, .int .i64 N, .string s, .slice a len cap] 24)) := (Below.refl _ W).alloc (Nat.le_refl _) _
 refine ⟨TurnP.set4 hb1 hsp.lt _, ?_⟩
 have hsp1 := hsp.kept (hb1.block b hsp.lt)
 have hbn := World.alloc_heap_new W (.cells #[.int .i64 1, .int .i64 N, .string s, .slice a len cap] 24)
 have hne : W.heap.size ≠ b := by have := hsp.lt; omega
 have hbn' := (set4_other (W.alloc (.cells #[.int .i64 1, .int .i64 N, .string s, .slice a len cap] 24)) b o (compV ⟨#[99, 97, 108, 108]⟩ (some ⟨W.heap.size, 0, none⟩) 1 1) hne).trans hbn
 obtain ⟨q, hq1, hq2, hq3, hq4, hq5⟩ : ∃ q : Tm (n + 1), q.tv = ⟨1, N, s, a, len, cap⟩ ∧ code q = [(⟨1, N, s, a, len, cap⟩ : TV).nd] ∧ blks q = [] ∧ (∀ m V, IsT m V q) ∧ ∀ V, Rows V q :=
  ⟨((⟨1, N, s, a, len, cap⟩, []) : TV × List (Tm n)), rfl, by rw [code_succ]; rfl, by rw [blks_succ]; simp, fun m V => ⟨hl, ⟨by show len ≤ _; omega, by show len ≤ cap; omega, by omega⟩, hsl, .inl rfl⟩, fun V => ⟨.inl ⟨rfl, hcp⟩, fun z hz => by cases hz⟩⟩
 have hct : code (n := n + 1) ((⟨1, N, s, a, len, cap⟩, []) : TV × List (Tm n)) = [(⟨1, N, s, a, len, cap⟩ : TV).nd] := by rw [code_succ]; rfl
 refine ⟨((compV ⟨#[99, 97, 108, 108]⟩ (some ⟨W.heap.size, 0, none⟩) 1 1, [q]) : TV × List (Tm (n + 1))), ?_, ?_, ?_, ?_, ?_, ?_⟩
 ·exact set4_cells _ b o _ (hsp1.cell (by omega)).1 (hsp1.cell (by omega)).1 (hsp1.cell (by omega)).1 (hsp1.cell (by omega)).1
 ·refine ⟨rfl, ⟨by show (1 : Nat) ≤ _; omega, by show (1 : Nat) ≤ 1; omega, hlim⟩, by show (4 : Nat) ≤ _; omega, .inr ⟨W.heap.size, 0, rfl, by rw [set4_size]; simp, fun j z hz => ?_⟩⟩
  have hj : j = 0 ∧ z = q := by
   match j, hz with
   | 0, hz => exact ⟨rfl, by simpa [Tm.kids] using hz.symm⟩
   | k + 1, hz => simp [Tm.kids] at hz
  obtain ⟨rfl, rfl⟩ := hj
  refine ⟨?_, hq4 _ _⟩
  rw [hq1]
  refine ⟨?_, ?_, ?_, ?_⟩ <;> simp [World.cell?, hbn']
 ·refine ⟨.inr ⟨W.heap.size, _, rfl, hbn', rfl, rfl, rfl⟩, fun z hz => ?_⟩
  have : z = q := by simpa [Tm.kids] using hz
  subst this
  exact hq5 _
 ·rw [blks_succ, if_neg (by simp)]
  simp [compV, hq3]
 ·rw [code_succ]
  simp only [List.flatMap_cons, List.flatMap_nil, List.append_nil]
  rw [hq2, hct, ← callL_eq]
  rfl
 ·intro z hz
  rw [blks_succ, if_neg (by simp)] at hz
  simp [compV, hq3] at hz
  exact .inr (by omega)
set_option maxRecDepth 100000 in
set_option maxHeartbeats 4000000 in
theorem makeBody_cps {n : Nat} (t : Tm n) (b o : Nat) (W : World) (ok : okT t = true) (hc : cellsAt W b o t.tv) (hsp : Spot W b o) (hT : IsT W.heap.size W t) (hR : Rows W t) (hap : (blks t).Nodup) (hnb : b ∉ blks t) (hlim : n + 1 ≤ 2199023255552) (Pst : Ending → World → Prop)
  (hyes : ∀ c, bodyC t = some c → ∀ V, TurnP W.heap.size b o (blks t) W V → StandsB n b o (blks t) W.heap.size V c → Pst (.returned (.bool true)) V)
  (hno : bodyC t = none → ∀ V, TurnP W.heap.size b o (blks t) W V → Pst (.returned (.bool false)) V) :
  Calls Tryz.prog 28 #[.pointer (some ⟨b, o, none⟩)] W fun e W' => Pst e W' := by
 have hbw := hsp.lt
 have hS0 : StkP W.heap.size W.heap.size 1 (W.alloc (.cells #[.pointer (some ⟨b, o, none⟩)] 65)) ([] ++ [.pointer (some ⟨b, o, none⟩)]) := stkP_mk (Nat.le_refl _) (Nat.le_refl _) (World.alloc_heap_new W _) (by unfold maxLen; omega) rfl rfl
 have hb0 : Below W.heap.size W (W.alloc (.cells #[.pointer (some ⟨b, o, none⟩)] 65)) := (Below.refl _ W).alloc (Nat.le_refl _) _
 have H0 := hide (And.intro hS0 hb0)
 have HT := hide (And.intro ok (And.intro hc (And.intro hsp (And.intro hT (And.intro hR (And.intro hap hnb))))))
 have HY := hide hyes
 have HN := hide hno
 clear hS0 hb0 ok hc hsp hT hR hap hnb hyes hno
 go_enter Tryz.func28, Tryz.ntmps28
 go_wp2_with fail
 refine wp_loop_cps (fun R hR => ?_)
 have HR := hide hR
 clear hR
 have last : ∀ (k g cp : Nat) (V : World) (act : Act), MbA (.pointer (some ⟨b, o, none⟩)) (.slice (some ⟨g, 0, none⟩) 0 cp) act → Pst (.returned (.bool true)) V → R (k + 1) act V := by
  intro k g cp V act hA hK
  obtain ⟨f, rfl⟩ := hA
  have HK := hide hK
  clear hK H0 HT HY HN
  refine (unhide HR) _ _ _ ?_
  go_wp2_with fail
  all_goals exact unhide HK
 have key : ∀ (n' : Nat) (u : Tm n'), okT u = true → ∃ cnt : Nat, ∀ (k : Nat) (S : List Value) (g cp b' o' : Nat) (V : World) (act : Act),
   MbA (.pointer (some ⟨b, o, none⟩)) (.slice (some ⟨g, 0, none⟩) (S.length + 1) cp) act → StkP W.heap.size g cp V (S ++ [.pointer (some ⟨b', o', none⟩)]) → cellsAt V b' o' u.tv → Spot V b' o' → IsT V.heap.size V u → Rows V u → (blks u).Nodup → b' ∉ blks u → b' < W.heap.size → (∀ k ∈ blks u, k < W.heap.size) → S.length + n' ≤ n → W.heap.size ≤ V.heap.size →
   (∀ c, bodyC u = some c → ∀ (g' cp' : Nat) (V' : World) (act' : Act), MbA (.pointer (some ⟨b, o, none⟩)) (.slice (some ⟨g', 0, none⟩) S.length cp') act' → StkP W.heap.size g' cp' V' S → TurnP W.heap.size b' o' (blks u) V V' → StandsB n' b' o' (blks u) V.heap.size V' c → R k act' V') →
   (bodyC u = none → ∀ V', TurnP W.heap.size b' o' (blks u) V V' → Pst (.returned (.bool false)) V') → R (cnt + k) act V := by
  clear H0 HT HY HN
  intro n'
  induction n' with
  | zero => intro u; exact Empty.elim u
  | succ n' ih =>
   intro u ok
   obtain ⟨x, kids⟩ := u
   have hk := ok_kids ok
   have e1 := isC_isB hk.1 [44]
   have e2 := isC_isB hk.1 [59]
   have e3 := isC_isB hk.1 [45, 62]
   have OKU := hide ok
   by_cases k1 : x.k = 1
   ·refine ⟨1, fun k S g cp b' o' V act hA hS hc hsp hT hRw hap hnb hbw' hLw hdep hVs hK hN => ?_⟩
    have hw := hT.wl
    obtain rfl := var_kids hw ok k1
    obtain ⟨kk, N, s, a, len, cap⟩ := x
    simp only at k1
    subst k1
    obtain ⟨f, rfl⟩ := hA
    have hl : len = 0 := by
     have := hT.1
     simpa [Tm.tv, Tm.kids] using this
    have hbc : bodyC (n := n' + 1) ((⟨1, N, s, a, len, cap⟩, []) : TV × List (Tm n')) = some ((4, 0, callL, 1) :: code (n := n' + 1) ((⟨1, N, s, a, len, cap⟩, []) : TV × List (Tm n'))) := by rw [bodyC_succ, if_pos rfl]
    have hcp : cap = 0 := by
     rcases hRw.1 with h | ⟨_, _, _, _, _, h, _⟩
     ·exact h.2
     ·exact h.trans hl
    obtain ⟨f1, f2⟩ := stands_var (n := n') (w0 := W.heap.size) (N := N) (s := s) (a := a) (len := len) (cap := cap) hl hcp hT.2.2.1 hsp (by omega) (blks (n := n' + 1) ((⟨1, N, s, a, len, cap⟩, []) : TV × List (Tm n')))
    clear hcp
    have hgS := hS.blk.1
    have hSp := hS.pop.kept ((set4_other (V.alloc (.cells #[.int .i64 1, .int .i64 N, .string s, .slice a len cap] 24)) b' o' (compV ⟨#[99, 97, 108, 108]⟩ (some ⟨V.heap.size, 0, none⟩) 1 1) (show g ≠ b' by omega)).trans (Below.heap_alloc V _ g hS.lt))
    have HK : Hid (∀ act', MbA (.pointer (some ⟨b, o, none⟩)) (.slice (some ⟨g, 0, none⟩) S.length cp) act' → R k act' (set4 (V.alloc (.cells #[.int .i64 1, .int .i64 N, .string s, .slice a len cap] 24)) b' o' (compV ⟨#[99, 97, 108, 108]⟩ (some ⟨V.heap.size, 0, none⟩) 1 1))) := fun act' hA' => hK _ hbc g cp _ act' hA' hSp f1 f2
    have hsp1 : Spot (V.alloc (.cells #[.int .i64 1, .int .i64 N, .string s, .slice a len cap] 24)) b' o' := hsp.kept (Below.heap_alloc _ _ _ hsp.lt)
    obtain ⟨g0, y0⟩ := hsp1.cell (q := o') (by omega)
    obtain ⟨g1, y1⟩ := hsp1.cell (q := o' + 1) (by omega)
    obtain ⟨g2, y2⟩ := hsp1.cell (q := o' + 2) (by omega)
    obtain ⟨g3, y3⟩ := hsp1.cell (q := o' + 3) (by omega)
    obtain ⟨v0, z0⟩ := Option.isSome_iff_exists.1 g0
    obtain ⟨v1, z1⟩ := Option.isSome_iff_exists.1 g1
    obtain ⟨v2, z2⟩ := Option.isSome_iff_exists.1 g2
    obtain ⟨v3, z3⟩ := Option.isSome_iff_exists.1 g3
    have ct := hS.top
    have hcap : S.length + 1 ≤ cp := by have := hS.blk.2.1; simp at this; omega
    have hcap' : cp ≤ 9223372036854775807 := by obtain ⟨_, _, cur, _, h, _⟩ := hS.blk; unfold maxLen at h; omega
    have hq : S.length ≤ 2199023255552 := by omega
    obtain ⟨c0, c1, c2, c3⟩ := hc
    simp only [Tm.tv] at c0 c1 c2 c3
    clear hK hN f1 f2 hS hSp hsp hsp1 g0 g1 g2 g3 hT hRw hap hnb hLw hw hbc hl ih hk e1 e2 e3 OKU ok
    rw [Nat.add_comm 1 k]
    refine (unhide HR) _ _ _ ?_
    go_wp2_with fail
    exact HK.out _ mbA_of
   ·by_cases k2 : x.k = 2
    ·refine ⟨1, fun k S g cp b' o' V act hA hS hc hsp hT hRw hap hnb hbw' hLw hdep hVs hK hN => ?_⟩
     obtain ⟨kk, N, s, a, len, cap⟩ := x
     simp only at k2
     subst k2
     obtain ⟨f, rfl⟩ := hA
     have hbc : bodyC (n := n' + 1) ((⟨2, N, s, a, len, cap⟩, kids) : TV × List (Tm n')) = none := by rw [bodyC_succ, if_neg (by show ¬ (2 : Int) = 1; decide), if_pos rfl]
     have HF := hide (hN hbc V (TurnP.of_below (Below.refl _ _)))
     have ct := hS.top
     have hcap : S.length + 1 ≤ cp := by have := hS.blk.2.1; simp at this; omega
     have hcap' : cp ≤ 9223372036854775807 := by obtain ⟨_, _, cur, _, h, _⟩ := hS.blk; unfold maxLen at h; omega
     have hq : S.length ≤ 2199023255552 := by omega
     obtain ⟨c0, c1, c2, c3⟩ := hc
     simp only [Tm.tv] at c0
     clear hK hN hS hsp hT hRw hap hnb hLw hbc ih hk e1 e2 e3 OKU ok c1 c2 c3 k1
     rw [Nat.add_comm 1 k]
     refine (unhide HR) _ _ _ ?_
     go_wp2_with fail
     all_goals exact unhide HF
    ·cases hj : junct x with
     | false =>
      refine ⟨1, fun k S g cp b' o' V act hA hS hc hsp hT hRw hap hnb hbw' hLw hdep hVs hK hN => ?_⟩
      obtain ⟨f, rfl⟩ := hA
      have hbc : bodyC (n := n' + 1) ((x, kids) : TV × List (Tm n')) = some (code (n := n' + 1) ((x, kids) : TV × List (Tm n'))) := by rw [bodyC_succ, if_neg k1, if_neg k2, if_neg (by simp [hj])]
      have HK : Hid (∀ (V' : World) (act' : Act), Below V.heap.size V V' → MbA (.pointer (some ⟨b, o, none⟩)) (.slice (some ⟨g, 0, none⟩) S.length cp) act' → R k act' V') := fun V' act' hb hA' => by
       have hT' := (hT.below hb).mono hb.size
       refine hK _ hbc g cp V' act' hA' (hS.pop.kept (hb.block g hS.lt)) (TurnP.of_below hb) ⟨Tm.lift (n := n' + 1) ((x, kids) : TV × List (Tm n')), ?_, lift_isT hT' (by omega), lift_rows (hRw.kept fun k hk' => hb.block k (hT.blks_lt k hk')), ?_, lift_code _, fun k hk' => .inl ?_⟩
       ·exact Eq.mpr (congrArg (cellsAt V' b' o') (lift_tv (n := n' + 1) ((x, kids) : TV × List (Tm n')))) (hc.kept (hb.block b' hsp.lt))
       ·exact Eq.mpr (congrArg List.Nodup (lift_blks (n := n' + 1) ((x, kids) : TV × List (Tm n')))) hap
       ·exact (lift_blks (n := n' + 1) ((x, kids) : TV × List (Tm n'))) ▸ hk'
      unfold junct at hj
      rw [← e1, ← e2, ← e3] at hj
      simp only [Bool.or_eq_false_iff] at hj
      obtain ⟨n1, n2, n3⟩ := hj
      have k1' : (x.k == 1) = false := by simpa using k1
      have k2' : (x.k == 2) = false := by simpa using k2
      have ct := hS.top
      have hcap : S.length + 1 ≤ cp := by have := hS.blk.2.1; simp at this; omega
      have hcap' : cp ≤ 9223372036854775807 := by obtain ⟨_, _, cur, _, h, _⟩ := hS.blk; unfold maxLen at h; omega
      have hq : S.length ≤ 2199023255552 := by omega
      have HX : Hid (∀ V', Below V.heap.size V V' → cellsAt V' b' o' x) := fun V' hb => (show cellsAt V b' o' x from hc).kept (hb.block b' hsp.lt)
      have i1 := isOfTwo_any x ⟨#[44]⟩
      have i2 := isOfTwo_any x ⟨#[59]⟩
      have i3 := isOfTwo_any x ⟨#[45, 62]⟩
      rw [nameL_and, n1] at i1
      rw [nameL_or, n2] at i2
      rw [nameL_then, n3] at i3
      simp only [TV.val] at i1 i2 i3
      obtain ⟨c0, c1, c2, c3⟩ := hc
      simp only [Tm.tv] at c0 c1 c2 c3
      clear hK hN hS hsp hT hRw hap hnb hLw hbc ih hk e1 e2 e3 OKU ok k1 k2 n1 n2 n3
      rw [Nat.add_comm 1 k]
      refine (unhide HR) _ _ _ ?_
      go_wp2_with fail
      refine (i1 _).mono ?_
      clear i1 c0 c1 c2 c3
      rintro e W1 ⟨rfl, hb1⟩
      obtain ⟨c0, c1, c2, c3⟩ := HX.out W1 hb1
      go_wp2_with fail
      refine (i2 _).mono ?_
      clear i2 c0 c1 c2 c3
      rintro e W2 ⟨rfl, hb2⟩
      replace hb1 := hb1.trans (hb2.mono hb1.size)
      clear hb2
      obtain ⟨c0, c1, c2, c3⟩ := HX.out W2 hb1
      go_wp2_with fail
      refine (i3 _).mono ?_
      clear i3 c0 c1 c2 c3
      rintro e W3 ⟨rfl, hb3⟩
      replace hb1 := hb1.trans (hb3.mono hb1.size)
      clear hb3 HX
      go_wp2_with fail
      exact HK.out _ _ hb1 mbA_of
     | true =>
      by_cases h2 : ∃ u v, kids = [u, v]
      ·obtain ⟨u, v, rfl⟩ := h2
       obtain ⟨cu, hcu⟩ := ih u (hk.2 u (by simp))
       obtain ⟨cv, hcv⟩ := ih v (hk.2 v (by simp))
       refine ⟨cv + cu + 1, fun k S g cp b' o' V act hA hS hc hsp hT hRw hap hnb hbw' hLw hdep hVs hK hN => ?_⟩
       obtain ⟨f, rfl⟩ := hA
       have hx4 : x.k = 4 ∧ x.N = 0 := by
        have := junct_len hj
        rcases wm_cases hk.1 with ⟨h, _⟩ | ⟨_, h⟩ | ⟨h, h', _⟩
        ·omega
        ·omega
        ·exact ⟨h, h'⟩
       obtain ⟨B, hP, eb⟩ := pair_of (x := x) hc hsp hT hRw hap hnb
       have hbj : bodyC (n := n' + 1) ((x, [u, v]) : TV × List (Tm n')) = bodyJ x.s.toList [bodyC u, bodyC v] := by rw [bodyC_succ, if_neg k1, if_neg k2, if_pos hj]; rfl
       rw [eb, hbj] at hK hN
       rw [eb] at hLw
       have hall : ∀ k ∈ b' :: B :: (blks u ++ blks v), k < W.heap.size := fun k hk => by
        rcases List.mem_cons.1 hk with rfl | hk
        ·exact hbw'
        ·exact hLw k hk
       have HC : Hid (∀ (X : World) (g' cp' : Nat) (act' : Act), Below W.heap.size V X → TurnP W.heap.size b' o' (B :: (blks u ++ blks v)) V X → StkP W.heap.size g' cp' X (S ++ [.pointer (some ⟨B, 0, none⟩), .pointer (some ⟨B, 4, none⟩)]) → MbA (.pointer (some ⟨b, o, none⟩)) (.slice (some ⟨g', 0, none⟩) (S.length + 2) cp') act' → R (cv + (cu + k)) act' X) := fun X g' cp' act' hb ht hS' hA' => by
        have hPX : Pair X b' o' B x u v := hP.kept (fun k hk => hb.block k (hall k hk)) hb.size
        obtain ⟨p1, p2, p3, p4, p5, p6, p7, p8⟩ := hPX.parts
        refine hcv (cu + k) (S ++ [.pointer (some ⟨B, 0, none⟩)]) g' cp' B 4 X act' (by simpa using hA') (by simpa using hS') hPX.cv hPX.spots.2 hPX.tv hPX.rv p2 p4 (hall B (by simp)) (fun k hk => hall k (by simp [hk])) (by simp only [List.length_append, List.length_cons, List.length_nil]; omega) (Nat.le_trans hVs hb.size) (fun c2 hc2 g2 cp2 V2 act2 hA2 hS2 ht2 hs2 => ?_) (fun hn2 V2 ht2 => ?_)
        ·obtain ⟨q1, q2, q3, q4, q5⟩ := hPX.first ht2 hall
         refine hcu k S g2 cp2 B 0 V2 act2 (by simpa using hA2) hS2 q3 q2 q4 q5 p1 p3 (hall B (by simp)) (fun k hk => hall k (by simp [hk])) (by omega) (by have := ht2.size; have := hb.size; omega) (fun c1 hc1 g3 cp3 V3 act3 hA3 hS3 ht3 hs3 => ?_) (fun hn1 V3 ht3 => ?_)
         ·obtain ⟨f1, f2⟩ := hPX.both ht ht2 hs2 ht3 hs3 hx4.1 hx4.2 hall (by omega)
          exact hK _ (by rw [hc1, hc2]; rfl) g3 cp3 V3 act3 hA3 hS3 f1 f2
         ·exact hN (by rw [hn1]; rfl) V3 ((hPX.half ht ht2 hbw').trans (ht3.outer (by simp) (fun k hk => by simp [hk]) hPX.nb hbw'))
        ·exact hN (by rw [hn2]; cases bodyC u <;> rfl) V2 (hPX.half ht ht2 hbw')
       have HX : Hid (∀ V', Below V.heap.size V V' → cellsAt V' b' o' x) := fun V' hb => hP.xc.kept (hb.block b' hsp.lt)
       have HS : Hid (∀ V', Below V.heap.size V V' → StkP W.heap.size g cp V' S) := fun V' hb => hS.pop.kept (hb.block g hS.lt)
       have hg0 := hS.blk.1
       have hgV := hS.lt
       have hbV := hsp.lt
       have ct := hS.top
       have hcap : S.length + 1 ≤ cp := by have := hS.blk.2.1; simp at this; omega
       have hcap' : cp ≤ 9223372036854775807 := by obtain ⟨_, _, cur, _, h, _⟩ := hS.blk; unfold maxLen at h; omega
       have hq : S.length ≤ 2199023255552 := by omega
       have hxa := hP.xa
       have hxl := hP.xl
       have hxp := hP.xp
       obtain ⟨c0, c1, c2, c3⟩ := hP.xc
       unfold junct at hj
       rw [← e1, ← e2, ← e3] at hj
       have i1 := isOfTwo_any x ⟨#[44]⟩
       have i2 := isOfTwo_any x ⟨#[59]⟩
       have i3 := isOfTwo_any x ⟨#[45, 62]⟩
       rw [nameL_and] at i1
       rw [nameL_or] at i2
       rw [nameL_then] at i3
       rw [show cv + cu + 1 + k = cv + (cu + k) + 1 by omega]
       generalize hz1 : isC x [44] = r1 at i1 hj
       generalize hz2 : isC x [59] = r2 at i2 hj
       generalize hz3 : isC x [45, 62] = r3 at i3 hj
       obtain ⟨kk, N, s, a, len, cap⟩ := x
       obtain ⟨hk4, hN0⟩ := hx4
       simp only at hk4 hN0 hxa hxl hxp
       subst hk4 hN0 hxa hxl
       simp only [TV.val] at i1 i2 i3 c0 c1 c2 c3
       clear hK hN hcu hcv hS hsp hT hRw hap hnb hLw hbj ih hk e1 e2 e3 OKU ok k1 k2 hz1 hz2 hz3 hP hall eb hc
       generalize B :: (blks u ++ blks v) = L at HC
       cases r1 with
       | true =>
        clear i2 i3 hj
        refine (unhide HR) _ _ _ ?_
        go_wp2_with fail
        refine (i1 _).mono ?_
        clear i1 c0 c1 c2 c3
        rintro e W1 ⟨rfl, hd1⟩
        have hb1 := hd1
        clear hd1
        obtain ⟨c0, c1, c2, c3⟩ := HX.out W1 hb1
        simp only at c0 c1 c2 c3
        go_wp2_with fail
        have hsW := hb1.size
        obtain ⟨D1, hD1⟩ : ∃ D1, W1.drew = D1 := ⟨_, rfl⟩
        have hDB : Below W1.heap.size W1 D1 := by rw [← hD1]; exact (Below.refl _ W1).drew
        have hDs : D1.heap.size = W1.heap.size := by rw [← hD1]; rfl
        have hDk : D1.cell? ⟨b', o' + 3, none⟩ = some (.slice (some ⟨B, 0, none⟩) 2 cap) := by rw [← hD1]; exact c3
        have hVD := hb1.trans (hDB.mono hsW)
        have hSk := HS.out D1 hVD
        obtain ⟨g', cp', X, hr, hXS, hgr⟩ := hSk.push2 (.pointer (some ⟨B, 0, none⟩)) (.pointer (some ⟨B, 4, none⟩)) rfl rfl hDs (by omega) (by omega) 101
        have hk1 : (D1.alloc (.cells #[.pointer (some ⟨B, 0, none⟩), .pointer (some ⟨B, 4, none⟩)] 65)).cell? ⟨b', o' + 3, none⟩ = some (.slice (some ⟨B, 0, none⟩) 2 cap) := (Below.cell ((Below.refl _ D1).alloc (Nat.le_refl _) _) (p := ⟨b', o' + 3, none⟩) (by show b' < D1.heap.size; omega)).trans hDk
        have hXD : Below W.heap.size D1 X := ((Below.refl W.heap.size D1).grown (World.grownBy_alloc D1 (.cells #[.pointer (some ⟨B, 0, none⟩), .pointer (some ⟨B, 4, none⟩)] 65) none) (by omega) (fun k e => by cases e)).grown hgr (by simp; omega) (fun k e => by cases e; exact hg0)
        have hk2 : X.cell? ⟨b', o' + 3, none⟩ = some (.slice (some ⟨B, 0, none⟩) 2 cap) := (hXD.cell (p := ⟨b', o' + 3, none⟩) hbw').trans hDk
        have hTX : TurnP W.heap.size b' o' L V X := by
         obtain ⟨_, _, cur, hcur, _⟩ := hSk.blk
         exact ((TurnP.of_below hVD).trans (TurnP.of_below ((Below.refl _ D1).alloc (Nat.le_refl _) (.cells #[.pointer (some ⟨B, 0, none⟩), .pointer (some ⟨B, 4, none⟩)] 65)))).trans (TurnP.of_gr hgr hg0 ((Below.heap_alloc D1 _ g (by omega)).trans hcur) (by simp [ofK]) hbw')
        have HZ : Hid (∀ act', MbA (.pointer (some ⟨b, o, none⟩)) (.slice (some ⟨g', 0, none⟩) (S.length + 2) cp') act' → R (cv + (cu + k)) act' X) := fun act' hA' => HC.out X g' cp' act' ((hVD.mono hVs).trans hXD) hTX hXS hA'
        clear hXS hgr hXD hDB hVD hSk hTX HC HS HX c0 c1 c2
        refine wp_region_noPanic ?_
        refine wp_region_held_drew (S := fun w' => w'.cell? ⟨b', o' + 3, none⟩ = some (.slice (some ⟨B, 0, none⟩) 2 cap)) (by kernel_rfl) ?_ (fun hHeld => ?_)
        ·exact c3
        rw [hD1] at hHeld ⊢
        clear hD1 c3
        refine wpAnyH_take (i := 0) (oi := { dst := some 57, op := Op.move (Operand.tmp 3), type := 101, pos := "clause.go:123", after := #[], guard := none }) (v := ?_) rfl (by kernel_rfl) (by kernel_rfl) (by kernel_rfl) (fun _ _ _ h => h) (Or.inl ⟨by rfl, ?_⟩) hHeld ?_
        rotate_left
        ·(intro w' hSw; (try dsimp only at hSw); go_simp; try with_reducible rfl)
        try simp only [Act.put, List.setIfInBounds_toArray, List.set_cons_zero, List.set_cons_succ]
        refine wpAnyH_take (i := 1) (oi := { dst := some 58, op := Op.move (Operand.tmp 4), type := 65, pos := "clause.go:123", after := #[], guard := none }) (v := ?_) rfl (by kernel_rfl) (by kernel_rfl) (by kernel_rfl) (fun _ _ _ h => h) (Or.inl ⟨by rfl, ?_⟩) hHeld ?_
        rotate_left
        ·(intro w' hSw; (try dsimp only at hSw); go_simp; try with_reducible rfl)
        try simp only [Act.put, List.setIfInBounds_toArray, List.set_cons_zero, List.set_cons_succ]
        refine wpAnyH_take (i := 2) (oi := { dst := some 59, op := Op.nilCheck (Operand.tmp 58), type := 0, pos := "clause.go:123", after := #[{ on := 1, ground := Ground.data }], guard := none }) (v := ?_) rfl (by kernel_rfl) (by kernel_rfl) (by kernel_rfl) (fun _ _ _ h => h) (Or.inl ⟨by rfl, ?_⟩) hHeld ?_
        rotate_left
        ·(intro w' hSw; (try dsimp only at hSw); go_simp; try with_reducible rfl)
        try simp only [Act.put, List.setIfInBounds_toArray, List.set_cons_zero, List.set_cons_succ]
        refine wpAnyH_take (i := 3) (oi := { dst := some 60, op := Op.fieldAddr 24 (Operand.tmp 59) 3, type := 0, pos := "clause.go:123", after := #[{ on := 2, ground := Ground.data }], guard := none }) (v := ?_) rfl (by kernel_rfl) (by kernel_rfl) (by kernel_rfl) (fun _ _ _ h => h) (Or.inl ⟨by rfl, ?_⟩) hHeld ?_
        rotate_left
        ·(intro w' hSw; (try dsimp only at hSw); go_simp; try with_reducible rfl)
        try simp only [Act.put, List.setIfInBounds_toArray, List.set_cons_zero, List.set_cons_succ]
        refine wpAnyH_take (i := 4) (oi := { dst := some 61, op := Op.load 22 (Operand.tmp 60), type := 22, pos := "clause.go:123", after := #[{ on := 3, ground := Ground.data }], guard := none }) (v := ?_) rfl (by kernel_rfl) (by kernel_rfl) (by kernel_rfl) (fun _ _ _ h => h) (Or.inl ⟨by rfl, ?_⟩) hHeld ?_
        rotate_left
        ·(intro w' hSw; (try dsimp only at hSw); go_simp; try with_reducible rfl)
        try simp only [Act.put, List.setIfInBounds_toArray, List.set_cons_zero, List.set_cons_succ]
        refine wpAnyH_take (i := 5) (oi := { dst := some 62, op := Op.indexAddr 22 (Operand.tmp 61) (Operand.const (Value.int IntKind.i64 0)), type := 0, pos := "clause.go:123", after := #[{ on := 4, ground := Ground.data }], guard := none }) (v := ?_) rfl (by kernel_rfl) (by kernel_rfl) (by kernel_rfl) (fun _ _ _ h => h) (Or.inl ⟨by rfl, ?_⟩) hHeld ?_
        rotate_left
        ·(intro w' hSw; (try dsimp only at hSw); go_simp; try with_reducible rfl)
        try simp only [Act.put, List.setIfInBounds_toArray, List.set_cons_zero, List.set_cons_succ]
        refine wpAnyH_take (i := 6) (oi := { dst := some 63, op := Op.move (Operand.tmp 4), type := 65, pos := "clause.go:123", after := #[], guard := none }) (v := ?_) rfl (by kernel_rfl) (by kernel_rfl) (by kernel_rfl) (fun _ _ _ h => h) (Or.inl ⟨by rfl, ?_⟩) hHeld ?_
        rotate_left
        ·(intro w' hSw; (try dsimp only at hSw); go_simp; try with_reducible rfl)
        try simp only [Act.put, List.setIfInBounds_toArray, List.set_cons_zero, List.set_cons_succ]
        refine wpAnyH_take (i := 7) (oi := { dst := some 64, op := Op.nilCheck (Operand.tmp 63), type := 0, pos := "clause.go:123", after := #[{ on := 6, ground := Ground.data }], guard := none }) (v := ?_) rfl (by kernel_rfl) (by kernel_rfl) (by kernel_rfl) (fun _ _ _ h => h) (Or.inl ⟨by rfl, ?_⟩) hHeld ?_
        rotate_left
        ·(intro w' hSw; (try dsimp only at hSw); go_simp; try with_reducible rfl)
        try simp only [Act.put, List.setIfInBounds_toArray, List.set_cons_zero, List.set_cons_succ]
        refine wpAnyH_take (i := 8) (oi := { dst := some 65, op := Op.fieldAddr 24 (Operand.tmp 64) 3, type := 0, pos := "clause.go:123", after := #[{ on := 7, ground := Ground.data }], guard := none }) (v := ?_) rfl (by kernel_rfl) (by kernel_rfl) (by kernel_rfl) (fun _ _ _ h => h) (Or.inl ⟨by rfl, ?_⟩) hHeld ?_
        rotate_left
        ·(intro w' hSw; (try dsimp only at hSw); go_simp; try with_reducible rfl)
        try simp only [Act.put, List.setIfInBounds_toArray, List.set_cons_zero, List.set_cons_succ]
        refine wpAnyH_take (i := 9) (oi := { dst := some 66, op := Op.load 22 (Operand.tmp 65), type := 22, pos := "clause.go:123", after := #[{ on := 8, ground := Ground.data }], guard := none }) (v := ?_) rfl (by kernel_rfl) (by kernel_rfl) (by kernel_rfl) (fun _ _ _ h => h) (Or.inl ⟨by rfl, ?_⟩) hHeld ?_
        rotate_left
        ·(intro w' hSw; (try dsimp only at hSw); go_simp; try with_reducible rfl)
        try simp only [Act.put, List.setIfInBounds_toArray, List.set_cons_zero, List.set_cons_succ]
        refine wpAnyH_take (i := 10) (oi := { dst := some 67, op := Op.indexAddr 22 (Operand.tmp 66) (Operand.const (Value.int IntKind.i64 1)), type := 0, pos := "clause.go:123", after := #[{ on := 9, ground := Ground.data }], guard := none }) (v := ?_) rfl (by kernel_rfl) (by kernel_rfl) (by kernel_rfl) (fun _ _ _ h => h) (Or.inl ⟨by rfl, ?_⟩) hHeld ?_
        rotate_left
        ·(intro w' hSw; (try dsimp only at hSw); go_simp; try with_reducible rfl)
        try simp only [Act.put, List.setIfInBounds_toArray, List.set_cons_zero, List.set_cons_succ]
        refine wpAnyH_ready (rs := [11]) (by kernel_rfl) (by simp) ?_
        refine AllReadyH.cons (o := { dst := some 68, op := Op.buildSlice 101 2 #[(0, Operand.tmp 62), (1, Operand.tmp 67)], type := 101, pos := "clause.go:123", after := #[{ on := 5, ground := Ground.data }, { on := 10, ground := Ground.data }], guard := none }) rfl (fun K hK => ?_) AllReadyH.nil
        have hHold := hHeld
        clear hHeld
        go_simp
        refine hK.out _ _ ?_ (fun hHeld => ?_)
        ·((try dsimp only); exact hk1)
        clear hK K hHold
        try simp only [Act.put, List.setIfInBounds_toArray, List.set_cons_zero, List.set_cons_succ]
        refine wpAnyH_ready (rs := [12]) (by kernel_rfl) (by simp) ?_
        refine AllReadyH.cons (o := { dst := some 69, op := Op.call { callee := Callee.builtin Builtin.append, args := #[Operand.tmp 57, Operand.tmp 68], argTypes := #[101, 101] }, type := 101, pos := "clause.go:123", after := #[{ on := 0, ground := Ground.data }, { on := 11, ground := Ground.data }], guard := none }) rfl (fun K hK => ?_) AllReadyH.nil
        have hHold := hHeld
        clear hHeld
        rw [if_pos (by rfl)]
        refine wp_append_row _ _ _ rfl rfl rfl hr ?_
        refine hK.out _ _ ?_ (fun hHeld => ?_)
        ·((try dsimp only); exact hk2)
        clear hK K hHold
        try simp only [Act.put, List.setIfInBounds_toArray, List.set_cons_zero, List.set_cons_succ]
        refine wpAnyH_take (i := 13) (oi := { dst := some 3, op := Op.assign (Operand.tmp 69), type := 101, pos := "clause.go:123", after := #[{ on := 12, ground := Ground.data }, { on := 12, ground := Ground.chain }, { on := 0, ground := Ground.phase }, { on := 1, ground := Ground.phase }, { on := 2, ground := Ground.phase }, { on := 3, ground := Ground.phase }, { on := 4, ground := Ground.phase }, { on := 5, ground := Ground.phase }, { on := 6, ground := Ground.phase }, { on := 7, ground := Ground.phase }, { on := 8, ground := Ground.phase }, { on := 9, ground := Ground.phase }, { on := 10, ground := Ground.phase }, { on := 11, ground := Ground.phase }, { on := 12, ground := Ground.phase }], guard := none }) (v := ?_) rfl (by kernel_rfl) (by kernel_rfl) (by kernel_rfl) (fun _ _ _ h => h) (Or.inl ⟨by rfl, ?_⟩) hHeld ?_
        rotate_left
        ·(intro w' hSw; (try dsimp only at hSw); go_simp; try with_reducible rfl)
        try simp only [Act.put, List.setIfInBounds_toArray, List.set_cons_zero, List.set_cons_succ]
        refine wpAnyH_done (by kernel_rfl) ?_ _
        refine NoPanic.normal ?_
        clear hHeld
        go_wp2_with fail
        exact HZ.out _ mbA_of
       | false =>
        cases r2 with
        | true =>
         clear i3 hj
         refine (unhide HR) _ _ _ ?_
         go_wp2_with fail
         refine (i1 _).mono ?_
         clear i1 c0 c1 c2 c3
         rintro e W1 ⟨rfl, hd1⟩
         have hb1 := hd1
         clear hd1
         obtain ⟨c0, c1, c2, c3⟩ := HX.out W1 hb1
         simp only at c0 c1 c2 c3
         go_wp2_with fail
         refine (i2 _).mono ?_
         clear i2 c0 c1 c2 c3
         rintro e W2 ⟨rfl, hd2⟩
         replace hb1 := hb1.trans (hd2.mono hb1.size)
         clear hd2
         obtain ⟨c0, c1, c2, c3⟩ := HX.out W2 hb1
         simp only at c0 c1 c2 c3
         go_wp2_with fail
         have hsW := hb1.size
         obtain ⟨D1, hD1⟩ : ∃ D1, W2.drew = D1 := ⟨_, rfl⟩
         have hDB : Below W2.heap.size W2 D1 := by rw [← hD1]; exact (Below.refl _ W2).drew
         have hDs : D1.heap.size = W2.heap.size := by rw [← hD1]; rfl
         have hDk : D1.cell? ⟨b', o' + 3, none⟩ = some (.slice (some ⟨B, 0, none⟩) 2 cap) := by rw [← hD1]; exact c3
         have hVD := hb1.trans (hDB.mono hsW)
         have hSk := HS.out D1 hVD
         obtain ⟨g', cp', X, hr, hXS, hgr⟩ := hSk.push2 (.pointer (some ⟨B, 0, none⟩)) (.pointer (some ⟨B, 4, none⟩)) rfl rfl hDs (by omega) (by omega) 101
         have hk1 : (D1.alloc (.cells #[.pointer (some ⟨B, 0, none⟩), .pointer (some ⟨B, 4, none⟩)] 65)).cell? ⟨b', o' + 3, none⟩ = some (.slice (some ⟨B, 0, none⟩) 2 cap) := (Below.cell ((Below.refl _ D1).alloc (Nat.le_refl _) _) (p := ⟨b', o' + 3, none⟩) (by show b' < D1.heap.size; omega)).trans hDk
         have hXD : Below W.heap.size D1 X := ((Below.refl W.heap.size D1).grown (World.grownBy_alloc D1 (.cells #[.pointer (some ⟨B, 0, none⟩), .pointer (some ⟨B, 4, none⟩)] 65) none) (by omega) (fun k e => by cases e)).grown hgr (by simp; omega) (fun k e => by cases e; exact hg0)
         have hk2 : X.cell? ⟨b', o' + 3, none⟩ = some (.slice (some ⟨B, 0, none⟩) 2 cap) := (hXD.cell (p := ⟨b', o' + 3, none⟩) hbw').trans hDk
         have hTX : TurnP W.heap.size b' o' L V X := by
          obtain ⟨_, _, cur, hcur, _⟩ := hSk.blk
          exact ((TurnP.of_below hVD).trans (TurnP.of_below ((Below.refl _ D1).alloc (Nat.le_refl _) (.cells #[.pointer (some ⟨B, 0, none⟩), .pointer (some ⟨B, 4, none⟩)] 65)))).trans (TurnP.of_gr hgr hg0 ((Below.heap_alloc D1 _ g (by omega)).trans hcur) (by simp [ofK]) hbw')
         have HZ : Hid (∀ act', MbA (.pointer (some ⟨b, o, none⟩)) (.slice (some ⟨g', 0, none⟩) (S.length + 2) cp') act' → R (cv + (cu + k)) act' X) := fun act' hA' => HC.out X g' cp' act' ((hVD.mono hVs).trans hXD) hTX hXS hA'
         clear hXS hgr hXD hDB hVD hSk hTX HC HS HX c0 c1 c2
         refine wp_region_noPanic ?_
         refine wp_region_held_drew (S := fun w' => w'.cell? ⟨b', o' + 3, none⟩ = some (.slice (some ⟨B, 0, none⟩) 2 cap)) (by kernel_rfl) ?_ (fun hHeld => ?_)
         ·exact c3
         rw [hD1] at hHeld ⊢
         clear hD1 c3
         refine wpAnyH_take (i := 0) (oi := { dst := some 57, op := Op.move (Operand.tmp 3), type := 101, pos := "clause.go:123", after := #[], guard := none }) (v := ?_) rfl (by kernel_rfl) (by kernel_rfl) (by kernel_rfl) (fun _ _ _ h => h) (Or.inl ⟨by rfl, ?_⟩) hHeld ?_
         rotate_left
         ·(intro w' hSw; (try dsimp only at hSw); go_simp; try with_reducible rfl)
         try simp only [Act.put, List.setIfInBounds_toArray, List.set_cons_zero, List.set_cons_succ]
         refine wpAnyH_take (i := 1) (oi := { dst := some 58, op := Op.move (Operand.tmp 4), type := 65, pos := "clause.go:123", after := #[], guard := none }) (v := ?_) rfl (by kernel_rfl) (by kernel_rfl) (by kernel_rfl) (fun _ _ _ h => h) (Or.inl ⟨by rfl, ?_⟩) hHeld ?_
         rotate_left
         ·(intro w' hSw; (try dsimp only at hSw); go_simp; try with_reducible rfl)
         try simp only [Act.put, List.setIfInBounds_toArray, List.set_cons_zero, List.set_cons_succ]
         refine wpAnyH_take (i := 2) (oi := { dst := some 59, op := Op.nilCheck (Operand.tmp 58), type := 0, pos := "clause.go:123", after := #[{ on := 1, ground := Ground.data }], guard := none }) (v := ?_) rfl (by kernel_rfl) (by kernel_rfl) (by kernel_rfl) (fun _ _ _ h => h) (Or.inl ⟨by rfl, ?_⟩) hHeld ?_
         rotate_left
         ·(intro w' hSw; (try dsimp only at hSw); go_simp; try with_reducible rfl)
         try simp only [Act.put, List.setIfInBounds_toArray, List.set_cons_zero, List.set_cons_succ]
         refine wpAnyH_take (i := 3) (oi := { dst := some 60, op := Op.fieldAddr 24 (Operand.tmp 59) 3, type := 0, pos := "clause.go:123", after := #[{ on := 2, ground := Ground.data }], guard := none }) (v := ?_) rfl (by kernel_rfl) (by kernel_rfl) (by kernel_rfl) (fun _ _ _ h => h) (Or.inl ⟨by rfl, ?_⟩) hHeld ?_
         rotate_left
         ·(intro w' hSw; (try dsimp only at hSw); go_simp; try with_reducible rfl)
         try simp only [Act.put, List.setIfInBounds_toArray, List.set_cons_zero, List.set_cons_succ]
         refine wpAnyH_take (i := 4) (oi := { dst := some 61, op := Op.load 22 (Operand.tmp 60), type := 22, pos := "clause.go:123", after := #[{ on := 3, ground := Ground.data }], guard := none }) (v := ?_) rfl (by kernel_rfl) (by kernel_rfl) (by kernel_rfl) (fun _ _ _ h => h) (Or.inl ⟨by rfl, ?_⟩) hHeld ?_
         rotate_left
         ·(intro w' hSw; (try dsimp only at hSw); go_simp; try with_reducible rfl)
         try simp only [Act.put, List.setIfInBounds_toArray, List.set_cons_zero, List.set_cons_succ]
         refine wpAnyH_take (i := 5) (oi := { dst := some 62, op := Op.indexAddr 22 (Operand.tmp 61) (Operand.const (Value.int IntKind.i64 0)), type := 0, pos := "clause.go:123", after := #[{ on := 4, ground := Ground.data }], guard := none }) (v := ?_) rfl (by kernel_rfl) (by kernel_rfl) (by kernel_rfl) (fun _ _ _ h => h) (Or.inl ⟨by rfl, ?_⟩) hHeld ?_
         rotate_left
         ·(intro w' hSw; (try dsimp only at hSw); go_simp; try with_reducible rfl)
         try simp only [Act.put, List.setIfInBounds_toArray, List.set_cons_zero, List.set_cons_succ]
         refine wpAnyH_take (i := 6) (oi := { dst := some 63, op := Op.move (Operand.tmp 4), type := 65, pos := "clause.go:123", after := #[], guard := none }) (v := ?_) rfl (by kernel_rfl) (by kernel_rfl) (by kernel_rfl) (fun _ _ _ h => h) (Or.inl ⟨by rfl, ?_⟩) hHeld ?_
         rotate_left
         ·(intro w' hSw; (try dsimp only at hSw); go_simp; try with_reducible rfl)
         try simp only [Act.put, List.setIfInBounds_toArray, List.set_cons_zero, List.set_cons_succ]
         refine wpAnyH_take (i := 7) (oi := { dst := some 64, op := Op.nilCheck (Operand.tmp 63), type := 0, pos := "clause.go:123", after := #[{ on := 6, ground := Ground.data }], guard := none }) (v := ?_) rfl (by kernel_rfl) (by kernel_rfl) (by kernel_rfl) (fun _ _ _ h => h) (Or.inl ⟨by rfl, ?_⟩) hHeld ?_
         rotate_left
         ·(intro w' hSw; (try dsimp only at hSw); go_simp; try with_reducible rfl)
         try simp only [Act.put, List.setIfInBounds_toArray, List.set_cons_zero, List.set_cons_succ]
         refine wpAnyH_take (i := 8) (oi := { dst := some 65, op := Op.fieldAddr 24 (Operand.tmp 64) 3, type := 0, pos := "clause.go:123", after := #[{ on := 7, ground := Ground.data }], guard := none }) (v := ?_) rfl (by kernel_rfl) (by kernel_rfl) (by kernel_rfl) (fun _ _ _ h => h) (Or.inl ⟨by rfl, ?_⟩) hHeld ?_
         rotate_left
         ·(intro w' hSw; (try dsimp only at hSw); go_simp; try with_reducible rfl)
         try simp only [Act.put, List.setIfInBounds_toArray, List.set_cons_zero, List.set_cons_succ]
         refine wpAnyH_take (i := 9) (oi := { dst := some 66, op := Op.load 22 (Operand.tmp 65), type := 22, pos := "clause.go:123", after := #[{ on := 8, ground := Ground.data }], guard := none }) (v := ?_) rfl (by kernel_rfl) (by kernel_rfl) (by kernel_rfl) (fun _ _ _ h => h) (Or.inl ⟨by rfl, ?_⟩) hHeld ?_
         rotate_left
         ·(intro w' hSw; (try dsimp only at hSw); go_simp; try with_reducible rfl)
         try simp only [Act.put, List.setIfInBounds_toArray, List.set_cons_zero, List.set_cons_succ]
         refine wpAnyH_take (i := 10) (oi := { dst := some 67, op := Op.indexAddr 22 (Operand.tmp 66) (Operand.const (Value.int IntKind.i64 1)), type := 0, pos := "clause.go:123", after := #[{ on := 9, ground := Ground.data }], guard := none }) (v := ?_) rfl (by kernel_rfl) (by kernel_rfl) (by kernel_rfl) (fun _ _ _ h => h) (Or.inl ⟨by rfl, ?_⟩) hHeld ?_
         rotate_left
         ·(intro w' hSw; (try dsimp only at hSw); go_simp; try with_reducible rfl)
         try simp only [Act.put, List.setIfInBounds_toArray, List.set_cons_zero, List.set_cons_succ]
         refine wpAnyH_ready (rs := [11]) (by kernel_rfl) (by simp) ?_
         refine AllReadyH.cons (o := { dst := some 68, op := Op.buildSlice 101 2 #[(0, Operand.tmp 62), (1, Operand.tmp 67)], type := 101, pos := "clause.go:123", after := #[{ on := 5, ground := Ground.data }, { on := 10, ground := Ground.data }], guard := none }) rfl (fun K hK => ?_) AllReadyH.nil
         have hHold := hHeld
         clear hHeld
         go_simp
         refine hK.out _ _ ?_ (fun hHeld => ?_)
         ·((try dsimp only); exact hk1)
         clear hK K hHold
         try simp only [Act.put, List.setIfInBounds_toArray, List.set_cons_zero, List.set_cons_succ]
         refine wpAnyH_ready (rs := [12]) (by kernel_rfl) (by simp) ?_
         refine AllReadyH.cons (o := { dst := some 69, op := Op.call { callee := Callee.builtin Builtin.append, args := #[Operand.tmp 57, Operand.tmp 68], argTypes := #[101, 101] }, type := 101, pos := "clause.go:123", after := #[{ on := 0, ground := Ground.data }, { on := 11, ground := Ground.data }], guard := none }) rfl (fun K hK => ?_) AllReadyH.nil
         have hHold := hHeld
         clear hHeld
         rw [if_pos (by rfl)]
         refine wp_append_row _ _ _ rfl rfl rfl hr ?_
         refine hK.out _ _ ?_ (fun hHeld => ?_)
         ·((try dsimp only); exact hk2)
         clear hK K hHold
         try simp only [Act.put, List.setIfInBounds_toArray, List.set_cons_zero, List.set_cons_succ]
         refine wpAnyH_take (i := 13) (oi := { dst := some 3, op := Op.assign (Operand.tmp 69), type := 101, pos := "clause.go:123", after := #[{ on := 12, ground := Ground.data }, { on := 12, ground := Ground.chain }, { on := 0, ground := Ground.phase }, { on := 1, ground := Ground.phase }, { on := 2, ground := Ground.phase }, { on := 3, ground := Ground.phase }, { on := 4, ground := Ground.phase }, { on := 5, ground := Ground.phase }, { on := 6, ground := Ground.phase }, { on := 7, ground := Ground.phase }, { on := 8, ground := Ground.phase }, { on := 9, ground := Ground.phase }, { on := 10, ground := Ground.phase }, { on := 11, ground := Ground.phase }, { on := 12, ground := Ground.phase }], guard := none }) (v := ?_) rfl (by kernel_rfl) (by kernel_rfl) (by kernel_rfl) (fun _ _ _ h => h) (Or.inl ⟨by rfl, ?_⟩) hHeld ?_
         rotate_left
         ·(intro w' hSw; (try dsimp only at hSw); go_simp; try with_reducible rfl)
         try simp only [Act.put, List.setIfInBounds_toArray, List.set_cons_zero, List.set_cons_succ]
         refine wpAnyH_done (by kernel_rfl) ?_ _
         refine NoPanic.normal ?_
         clear hHeld
         go_wp2_with fail
         exact HZ.out _ mbA_of
        | false =>
         cases r3 with
         | true =>
          clear hj
          refine (unhide HR) _ _ _ ?_
          go_wp2_with fail
          refine (i1 _).mono ?_
          clear i1 c0 c1 c2 c3
          rintro e W1 ⟨rfl, hd1⟩
          have hb1 := hd1
          clear hd1
          obtain ⟨c0, c1, c2, c3⟩ := HX.out W1 hb1
          simp only at c0 c1 c2 c3
          go_wp2_with fail
          refine (i2 _).mono ?_
          clear i2 c0 c1 c2 c3
          rintro e W2 ⟨rfl, hd2⟩
          replace hb1 := hb1.trans (hd2.mono hb1.size)
          clear hd2
          obtain ⟨c0, c1, c2, c3⟩ := HX.out W2 hb1
          simp only at c0 c1 c2 c3
          go_wp2_with fail
          refine (i3 _).mono ?_
          clear i3 c0 c1 c2 c3
          rintro e W3 ⟨rfl, hd3⟩
          replace hb1 := hb1.trans (hd3.mono hb1.size)
          clear hd3
          obtain ⟨c0, c1, c2, c3⟩ := HX.out W3 hb1
          simp only at c0 c1 c2 c3
          go_wp2_with fail
          have hsW := hb1.size
          obtain ⟨D1, hD1⟩ : ∃ D1, W3.drew = D1 := ⟨_, rfl⟩
          have hDB : Below W3.heap.size W3 D1 := by rw [← hD1]; exact (Below.refl _ W3).drew
          have hDs : D1.heap.size = W3.heap.size := by rw [← hD1]; rfl
          have hDk : D1.cell? ⟨b', o' + 3, none⟩ = some (.slice (some ⟨B, 0, none⟩) 2 cap) := by rw [← hD1]; exact c3
          have hVD := hb1.trans (hDB.mono hsW)
          have hSk := HS.out D1 hVD
          obtain ⟨g', cp', X, hr, hXS, hgr⟩ := hSk.push2 (.pointer (some ⟨B, 0, none⟩)) (.pointer (some ⟨B, 4, none⟩)) rfl rfl hDs (by omega) (by omega) 101
          have hk1 : (D1.alloc (.cells #[.pointer (some ⟨B, 0, none⟩), .pointer (some ⟨B, 4, none⟩)] 65)).cell? ⟨b', o' + 3, none⟩ = some (.slice (some ⟨B, 0, none⟩) 2 cap) := (Below.cell ((Below.refl _ D1).alloc (Nat.le_refl _) _) (p := ⟨b', o' + 3, none⟩) (by show b' < D1.heap.size; omega)).trans hDk
          have hXD : Below W.heap.size D1 X := ((Below.refl W.heap.size D1).grown (World.grownBy_alloc D1 (.cells #[.pointer (some ⟨B, 0, none⟩), .pointer (some ⟨B, 4, none⟩)] 65) none) (by omega) (fun k e => by cases e)).grown hgr (by simp; omega) (fun k e => by cases e; exact hg0)
          have hk2 : X.cell? ⟨b', o' + 3, none⟩ = some (.slice (some ⟨B, 0, none⟩) 2 cap) := (hXD.cell (p := ⟨b', o' + 3, none⟩) hbw').trans hDk
          have hTX : TurnP W.heap.size b' o' L V X := by
           obtain ⟨_, _, cur, hcur, _⟩ := hSk.blk
           exact ((TurnP.of_below hVD).trans (TurnP.of_below ((Below.refl _ D1).alloc (Nat.le_refl _) (.cells #[.pointer (some ⟨B, 0, none⟩), .pointer (some ⟨B, 4, none⟩)] 65)))).trans (TurnP.of_gr hgr hg0 ((Below.heap_alloc D1 _ g (by omega)).trans hcur) (by simp [ofK]) hbw')
          have HZ : Hid (∀ act', MbA (.pointer (some ⟨b, o, none⟩)) (.slice (some ⟨g', 0, none⟩) (S.length + 2) cp') act' → R (cv + (cu + k)) act' X) := fun act' hA' => HC.out X g' cp' act' ((hVD.mono hVs).trans hXD) hTX hXS hA'
          clear hXS hgr hXD hDB hVD hSk hTX HC HS HX c0 c1 c2
          refine wp_region_noPanic ?_
          refine wp_region_held_drew (S := fun w' => w'.cell? ⟨b', o' + 3, none⟩ = some (.slice (some ⟨B, 0, none⟩) 2 cap)) (by kernel_rfl) ?_ (fun hHeld => ?_)
          ·exact c3
          rw [hD1] at hHeld ⊢
          clear hD1 c3
          refine wpAnyH_take (i := 0) (oi := { dst := some 57, op := Op.move (Operand.tmp 3), type := 101, pos := "clause.go:123", after := #[], guard := none }) (v := ?_) rfl (by kernel_rfl) (by kernel_rfl) (by kernel_rfl) (fun _ _ _ h => h) (Or.inl ⟨by rfl, ?_⟩) hHeld ?_
          rotate_left
          ·(intro w' hSw; (try dsimp only at hSw); go_simp; try with_reducible rfl)
          try simp only [Act.put, List.setIfInBounds_toArray, List.set_cons_zero, List.set_cons_succ]
          refine wpAnyH_take (i := 1) (oi := { dst := some 58, op := Op.move (Operand.tmp 4), type := 65, pos := "clause.go:123", after := #[], guard := none }) (v := ?_) rfl (by kernel_rfl) (by kernel_rfl) (by kernel_rfl) (fun _ _ _ h => h) (Or.inl ⟨by rfl, ?_⟩) hHeld ?_
          rotate_left
          ·(intro w' hSw; (try dsimp only at hSw); go_simp; try with_reducible rfl)
          try simp only [Act.put, List.setIfInBounds_toArray, List.set_cons_zero, List.set_cons_succ]
          refine wpAnyH_take (i := 2) (oi := { dst := some 59, op := Op.nilCheck (Operand.tmp 58), type := 0, pos := "clause.go:123", after := #[{ on := 1, ground := Ground.data }], guard := none }) (v := ?_) rfl (by kernel_rfl) (by kernel_rfl) (by kernel_rfl) (fun _ _ _ h => h) (Or.inl ⟨by rfl, ?_⟩) hHeld ?_
          rotate_left
          ·(intro w' hSw; (try dsimp only at hSw); go_simp; try with_reducible rfl)
          try simp only [Act.put, List.setIfInBounds_toArray, List.set_cons_zero, List.set_cons_succ]
          refine wpAnyH_take (i := 3) (oi := { dst := some 60, op := Op.fieldAddr 24 (Operand.tmp 59) 3, type := 0, pos := "clause.go:123", after := #[{ on := 2, ground := Ground.data }], guard := none }) (v := ?_) rfl (by kernel_rfl) (by kernel_rfl) (by kernel_rfl) (fun _ _ _ h => h) (Or.inl ⟨by rfl, ?_⟩) hHeld ?_
          rotate_left
          ·(intro w' hSw; (try dsimp only at hSw); go_simp; try with_reducible rfl)
          try simp only [Act.put, List.setIfInBounds_toArray, List.set_cons_zero, List.set_cons_succ]
          refine wpAnyH_take (i := 4) (oi := { dst := some 61, op := Op.load 22 (Operand.tmp 60), type := 22, pos := "clause.go:123", after := #[{ on := 3, ground := Ground.data }], guard := none }) (v := ?_) rfl (by kernel_rfl) (by kernel_rfl) (by kernel_rfl) (fun _ _ _ h => h) (Or.inl ⟨by rfl, ?_⟩) hHeld ?_
          rotate_left
          ·(intro w' hSw; (try dsimp only at hSw); go_simp; try with_reducible rfl)
          try simp only [Act.put, List.setIfInBounds_toArray, List.set_cons_zero, List.set_cons_succ]
          refine wpAnyH_take (i := 5) (oi := { dst := some 62, op := Op.indexAddr 22 (Operand.tmp 61) (Operand.const (Value.int IntKind.i64 0)), type := 0, pos := "clause.go:123", after := #[{ on := 4, ground := Ground.data }], guard := none }) (v := ?_) rfl (by kernel_rfl) (by kernel_rfl) (by kernel_rfl) (fun _ _ _ h => h) (Or.inl ⟨by rfl, ?_⟩) hHeld ?_
          rotate_left
          ·(intro w' hSw; (try dsimp only at hSw); go_simp; try with_reducible rfl)
          try simp only [Act.put, List.setIfInBounds_toArray, List.set_cons_zero, List.set_cons_succ]
          refine wpAnyH_take (i := 6) (oi := { dst := some 63, op := Op.move (Operand.tmp 4), type := 65, pos := "clause.go:123", after := #[], guard := none }) (v := ?_) rfl (by kernel_rfl) (by kernel_rfl) (by kernel_rfl) (fun _ _ _ h => h) (Or.inl ⟨by rfl, ?_⟩) hHeld ?_
          rotate_left
          ·(intro w' hSw; (try dsimp only at hSw); go_simp; try with_reducible rfl)
          try simp only [Act.put, List.setIfInBounds_toArray, List.set_cons_zero, List.set_cons_succ]
          refine wpAnyH_take (i := 7) (oi := { dst := some 64, op := Op.nilCheck (Operand.tmp 63), type := 0, pos := "clause.go:123", after := #[{ on := 6, ground := Ground.data }], guard := none }) (v := ?_) rfl (by kernel_rfl) (by kernel_rfl) (by kernel_rfl) (fun _ _ _ h => h) (Or.inl ⟨by rfl, ?_⟩) hHeld ?_
          rotate_left
          ·(intro w' hSw; (try dsimp only at hSw); go_simp; try with_reducible rfl)
          try simp only [Act.put, List.setIfInBounds_toArray, List.set_cons_zero, List.set_cons_succ]
          refine wpAnyH_take (i := 8) (oi := { dst := some 65, op := Op.fieldAddr 24 (Operand.tmp 64) 3, type := 0, pos := "clause.go:123", after := #[{ on := 7, ground := Ground.data }], guard := none }) (v := ?_) rfl (by kernel_rfl) (by kernel_rfl) (by kernel_rfl) (fun _ _ _ h => h) (Or.inl ⟨by rfl, ?_⟩) hHeld ?_
          rotate_left
          ·(intro w' hSw; (try dsimp only at hSw); go_simp; try with_reducible rfl)
          try simp only [Act.put, List.setIfInBounds_toArray, List.set_cons_zero, List.set_cons_succ]
          refine wpAnyH_take (i := 9) (oi := { dst := some 66, op := Op.load 22 (Operand.tmp 65), type := 22, pos := "clause.go:123", after := #[{ on := 8, ground := Ground.data }], guard := none }) (v := ?_) rfl (by kernel_rfl) (by kernel_rfl) (by kernel_rfl) (fun _ _ _ h => h) (Or.inl ⟨by rfl, ?_⟩) hHeld ?_
          rotate_left
          ·(intro w' hSw; (try dsimp only at hSw); go_simp; try with_reducible rfl)
          try simp only [Act.put, List.setIfInBounds_toArray, List.set_cons_zero, List.set_cons_succ]
          refine wpAnyH_take (i := 10) (oi := { dst := some 67, op := Op.indexAddr 22 (Operand.tmp 66) (Operand.const (Value.int IntKind.i64 1)), type := 0, pos := "clause.go:123", after := #[{ on := 9, ground := Ground.data }], guard := none }) (v := ?_) rfl (by kernel_rfl) (by kernel_rfl) (by kernel_rfl) (fun _ _ _ h => h) (Or.inl ⟨by rfl, ?_⟩) hHeld ?_
          rotate_left
          ·(intro w' hSw; (try dsimp only at hSw); go_simp; try with_reducible rfl)
          try simp only [Act.put, List.setIfInBounds_toArray, List.set_cons_zero, List.set_cons_succ]
          refine wpAnyH_ready (rs := [11]) (by kernel_rfl) (by simp) ?_
          refine AllReadyH.cons (o := { dst := some 68, op := Op.buildSlice 101 2 #[(0, Operand.tmp 62), (1, Operand.tmp 67)], type := 101, pos := "clause.go:123", after := #[{ on := 5, ground := Ground.data }, { on := 10, ground := Ground.data }], guard := none }) rfl (fun K hK => ?_) AllReadyH.nil
          have hHold := hHeld
          clear hHeld
          go_simp
          refine hK.out _ _ ?_ (fun hHeld => ?_)
          ·((try dsimp only); exact hk1)
          clear hK K hHold
          try simp only [Act.put, List.setIfInBounds_toArray, List.set_cons_zero, List.set_cons_succ]
          refine wpAnyH_ready (rs := [12]) (by kernel_rfl) (by simp) ?_
          refine AllReadyH.cons (o := { dst := some 69, op := Op.call { callee := Callee.builtin Builtin.append, args := #[Operand.tmp 57, Operand.tmp 68], argTypes := #[101, 101] }, type := 101, pos := "clause.go:123", after := #[{ on := 0, ground := Ground.data }, { on := 11, ground := Ground.data }], guard := none }) rfl (fun K hK => ?_) AllReadyH.nil
          have hHold := hHeld
          clear hHeld
          rw [if_pos (by rfl)]
          refine wp_append_row _ _ _ rfl rfl rfl hr ?_
          refine hK.out _ _ ?_ (fun hHeld => ?_)
          ·((try dsimp only); exact hk2)
          clear hK K hHold
          try simp only [Act.put, List.setIfInBounds_toArray, List.set_cons_zero, List.set_cons_succ]
          refine wpAnyH_take (i := 13) (oi := { dst := some 3, op := Op.assign (Operand.tmp 69), type := 101, pos := "clause.go:123", after := #[{ on := 12, ground := Ground.data }, { on := 12, ground := Ground.chain }, { on := 0, ground := Ground.phase }, { on := 1, ground := Ground.phase }, { on := 2, ground := Ground.phase }, { on := 3, ground := Ground.phase }, { on := 4, ground := Ground.phase }, { on := 5, ground := Ground.phase }, { on := 6, ground := Ground.phase }, { on := 7, ground := Ground.phase }, { on := 8, ground := Ground.phase }, { on := 9, ground := Ground.phase }, { on := 10, ground := Ground.phase }, { on := 11, ground := Ground.phase }, { on := 12, ground := Ground.phase }], guard := none }) (v := ?_) rfl (by kernel_rfl) (by kernel_rfl) (by kernel_rfl) (fun _ _ _ h => h) (Or.inl ⟨by rfl, ?_⟩) hHeld ?_
          rotate_left
          ·(intro w' hSw; (try dsimp only at hSw); go_simp; try with_reducible rfl)
          try simp only [Act.put, List.setIfInBounds_toArray, List.set_cons_zero, List.set_cons_succ]
          refine wpAnyH_done (by kernel_rfl) ?_ _
          refine NoPanic.normal ?_
          clear hHeld
          go_wp2_with fail
          exact HZ.out _ mbA_of
         | false => cases hj
      ·refine ⟨0, fun k S g cp b' o' V act hA hS hc hsp hT hRw hap hnb hbw' hLw hdep hVs hK hN => ?_⟩
       exact (h2 (two_kids hT.wl (junct_len hj))).elim
 obtain ⟨ok, hc, hsp, hT, hR, hap, hnb⟩ := unhide HT
 obtain ⟨hS0, hb0⟩ := unhide H0
 obtain ⟨cnt, hcnt⟩ := key n t ok
 refine ⟨cnt + 1, hcnt 1 [] W.heap.size 1 b o _ _ mbA_of hS0 (hc.kept (hb0.block b hbw)) (hsp.kept (hb0.block b hbw)) ((hT.below hb0).mono hb0.size) (hR.kept fun k hk => hb0.block k (hT.blks_lt k hk)) hap hnb hbw hT.blks_lt (by simp) hb0.size (fun c hc' g' cp' V' act' hA' hS' ht hs => ?_) (fun hn V' ht => ?_)⟩
 ·refine last 0 g' cp' V' act' hA' ((unhide HY) c hc' V' ((TurnP.of_below hb0).trans ht) ?_)
  obtain ⟨t', h1, h2, h3, h4, h5, h6⟩ := hs
  exact ⟨t', h1, h2, h3, h4, h5, fun k hk => (h6 k hk).imp id fun h => Nat.le_trans hb0.size h⟩
 ·exact (unhide HN) hn V' ((TurnP.of_below hb0).trans ht)
theorem makeBody_any (n : Nat) (t : Tm n) (b o : Nat) (W : World) (ok : okT t = true) (hc : cellsAt W b o t.tv) (hsp : Spot W b o) (hT : IsT W.heap.size W t) (hR : Rows W t) (hap : (blks t).Nodup) (hnb : b ∉ blks t) (hlim : n + 1 ≤ 2199023255552 := by omega) : Calls Tryz.prog 28 #[.pointer (some ⟨b, o, none⟩)] W fun e W' => e = .returned (.bool (bodyC t).isSome) ∧ MbSays n b o (blks t) W (bodyC t) W' :=
 makeBody_cps t b o W ok hc hsp hT hR hap hnb hlim (fun e W' => e = .returned (.bool (bodyC t).isSome) ∧ MbSays n b o (blks t) W (bodyC t) W')
  (fun c hc' V ht hs => ⟨by rw [hc']; rfl, ht.turned (Nat.le_refl _), fun c' h => by rw [hc'] at h; cases h; exact hs⟩)
  (fun hn V ht => ⟨by rw [hn]; rfl, ht.turned (Nat.le_refl _), fun c' h => by rw [hn] at h; cases h⟩)
end Go.Proofs.YtlbobmebbllifaaGreat
