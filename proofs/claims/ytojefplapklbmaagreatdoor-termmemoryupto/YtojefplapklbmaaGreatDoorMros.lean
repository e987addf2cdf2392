import Derived.Test.YtojefplapklbmaaGreatDoorMrn
import Derived.Test.YtojefplapklbmaaGreatDoorCss
import Derived.Test.YtojefplapklbmaaGreatDoorSws
import Derived.Test.YtojefplapklbmaaGreatDoorVss
/- What the functions of term give: always a term of one code, in new memory, its rows whole blocks. -/
namespace Go.Proofs.YtojefplapklbmaaGreatDoor
open Go.RowKit Go.Shelf Go.Maps

theorem parts_code {n : Nat} (t : Tm n) : (code t).length = (parts t).length := by simp [code]
/-- The cells x are a term of the code c, its rows whole blocks from lo on. -/
def Gave (D lo : Nat) (W : World) (x : TV) (c : List Nd) : Prop := ∃ t : Tm D, x = t.tv ∧ IsT W.heap.size W t ∧ WhT lo W t ∧ code t = c
def zeroC : List Nd := [(0, 0, [], 0)]
def Wide (c : List Nd) : Prop := ∀ y ∈ c, y.2.2.2 ≤ 50
theorem zero_wide : Wide zeroC := fun y hy => by simp [zeroC] at hy; subst hy; show (0 : Nat) ≤ 50; omega
theorem gave_zero {D lo : Nat} {W : World} (hD : D + 1 ≤ 2199023255552) : Gave (D + 1) lo W zeroT zeroC :=
  ⟨((zeroT, []) : TV × List (Tm D)), rfl, ⟨rfl, ⟨Nat.zero_le _, Nat.le_refl _, hD⟩, Nat.zero_le _, .inl rfl⟩, ⟨.inl ⟨rfl, rfl, rfl, rfl⟩, fun u hu => by cases hu⟩, by rw [code_succ]; simp [zeroT, TV.nd, zeroC, ByteArray.toList_eq]⟩
theorem gave_of {D D' lo : Nat} {W : World} {x : TV} {c : List Nd} (h : HoldsWh D lo W x.val c) (hD : D ≤ D') (hl : D' ≤ 2199023255552) : Gave D' lo W x c := by
  obtain ⟨t, h1, h2⟩ := h D' hD hl
  exact ⟨t, TV.val_inj h1, h2⟩
theorem at_world {n : Nat} {x : Tm n} {w W : World} (hT : IsT w.heap.size w x) (hb : Below w.heap.size w W) : IsT W.heap.size W x := (hT.below hb).mono hb.size
theorem rename_gives {n : Nat} (x : Tm n) (w : World) (hT : IsT w.heap.size w x) (hn : n ≤ 274877906944) : ∃ c, Wide c ∧ ∀ W, Below w.heap.size w W →
    Calls Tryz.prog 15 #[x.tv.val, .int .i64 3] W fun e W' => ∃ (y : TV) (k r : Int), e = .returned (.tuple #[y.val, .int .i64 k, .int .i64 r]) ∧ Below W.heap.size W W' ∧ Gave (2 * n + 2) W.heap.size W' y c := by
  cases hok : okT x with
  | false => exact ⟨zeroC, zero_wide, fun W hb => (rename_bad x 3 W (at_world hT hb) hok).mono fun e W' h => ⟨zeroT, 0, 2, h.1, h.2, gave_zero (by omega)⟩⟩
  | true =>
    by_cases hl : (3 : Int) + ((stepsN stpN [] (code x)).length : Nat) ≤ 1099511627777
    · refine ⟨canon 3 (code x), okC50 (okC_canon (okT_okC hok) (by omega) (by omega)), fun W hb => (rename_full x 3 W (at_world hT hb) hok).mono fun e W' ⟨y, k, r, h1, h2, h3⟩ => ⟨y, k, r, h1, h2, ?_⟩⟩
      rcases h3 with ⟨_, _, _, _, _, h⟩ | ⟨_, _, h, _⟩ | ⟨h, _⟩
      · exact gave_of h.whole (by omega) (by omega)
      · exact (h hl).elim
      · exact (h (by omega)).elim
    · refine ⟨zeroC, zero_wide, fun W hb => (rename_full x 3 W (at_world hT hb) hok).mono fun e W' ⟨y, k, r, h1, h2, h3⟩ => ⟨y, k, r, h1, h2, ?_⟩⟩
      rcases h3 with ⟨_, _, h, _⟩ | ⟨_, _, _, _, _, h⟩ | ⟨h, _⟩
      · exact (hl h).elim
      · rw [h]; exact gave_zero (by omega)
      · exact (h (by omega)).elim
theorem apply_gives {n : Nat} (x : Tm n) (bs : List (Int × Tm n)) (a : Option Addr) (len cap : Nat) (w : World) (hT : IsT w.heap.size w x) (hL : IsL w.heap.size w a len bs) (hn : n ≤ 274877906944) : ∃ c, Wide c ∧ ∀ W, Below w.heap.size w W →
    Calls Tryz.prog 17 #[x.tv.val, .slice a len cap] W fun e W' => ∃ (y : TV) (r : Int), e = .returned (.tuple #[y.val, .int .i64 r]) ∧ Below W.heap.size W W' ∧ Gave (2 * n + 2) W.heap.size W' y c := by
  by_cases hok : okT x = true ∧ (∀ p ∈ bs, okT p.2 = true) ∧ Subst bs
  · refine ⟨_, sub50 hok.1 hok.2.1, fun W hb => (app_all x bs a len cap W (at_world hT hb) ((hL.below hb).mono hb.size)).mono fun e W' ⟨y, r, h1, h2, h3⟩ => ⟨y, r, h1, h2, ?_⟩⟩
    rcases h3 with ⟨_, _, _, _, h⟩ | ⟨_, _, _, h⟩
    · exact gave_of h.whole (by omega) (by omega)
    · exact ((h hok.1).1 hok.2).elim
  · refine ⟨zeroC, zero_wide, fun W hb => (app_all x bs a len cap W (at_world hT hb) ((hL.below hb).mono hb.size)).mono fun e W' ⟨y, r, h1, h2, h3⟩ => ⟨y, r, h1, h2, ?_⟩⟩
    rcases h3 with ⟨_, k1, k2, k3, _⟩ | ⟨_, h, _⟩
    · exact (hok ⟨k1, k2, k3⟩).elim
    · rw [h]; exact gave_zero (by omega)
theorem both_no {n : Nat} {x y : Tm n} (h : ¬ (okT x = true ∧ okT y = true)) : [x, y].all okT = false := by
  cases hx : okT x <;> cases hy : okT y <;> simp_all
theorem general_gives {n : Nat} (x y : Tm n) (w : World) (hx : IsT w.heap.size w x) (hy : IsT w.heap.size w y) (px : okT x = true → ∀ z ∈ parts x, Pw z) (py : okT y = true → ∀ z ∈ parts y, Pw z) (hlx : (parts x).length ≤ 1000000000) (hly : (parts y).length ≤ 1000000000) (htab : Tab w.heap.size w) (hn : n ≤ 274877906944) : ∃ c, Wide c ∧ ∀ W, Below w.heap.size w W →
    Calls Tryz.prog 19 #[x.tv.val, y.tv.val] W fun e W' => ∃ (z : TV) (r : Int), e = .returned (.tuple #[z.val, .int .i64 r]) ∧ Below W.heap.size W W' ∧ Gave (2 * n + 2) W.heap.size W' z c := by
  by_cases hok : okT x = true ∧ okT y = true
  · exact ⟨lgg x y, okC50 (lgg_ok x y hok.1 (by rw [parts_code]; exact hlx)).1, fun W hb => (general_any x y W (at_world hx hb) (at_world hy hb) hok.1 hok.2 (px hok.1) (py hok.2) hlx hly ((htab.on hb).mono hb.size)).mono fun e W' ⟨z, h1, h2, h3⟩ => ⟨z, 0, h1, h2, gave_of h3.whole (by omega) (by omega)⟩⟩
  · exact ⟨zeroC, zero_wide, fun W hb => (general_bad x y W (at_world hx hb) (at_world hy hb) (both_no hok)).mono fun e W' h => ⟨zeroT, 2, h.1, h.2, gave_zero (by omega)⟩⟩
theorem atT_lim : ∀ (ns : List Int) {n : Nat} {t : Tm n} {m : Nat} {u : Tm m}, atT ns t = some ⟨m, u⟩ → m ≤ n := by
  intro ns
  induction ns with
  | nil => intro n t m u h; simp only [atT] at h; cases h; exact Nat.le_refl _
  | cons k r ih =>
    intro n t m u h
    cases n with
    | zero => exact Empty.elim t
    | succ n =>
      simp only [atT] at h
      split at h
      · cases hk : t.kids[k.toNat]? with
        | none => rw [hk] at h; cases h
        | some v =>
          rw [hk] at h
          exact Nat.le_succ_of_le (ih h)
      · cases h
theorem at_gives {n : Nat} (x : Tm n) (ns : List Int) (a : Option Addr) (len cap : Nat) (w : World) (hT : IsT w.heap.size w x) (hN : IsN w a len ns) (hn : n ≤ 274877906944) : ∃ c, Wide c ∧ ∀ W, Below w.heap.size w W →
    Calls Tryz.prog 21 #[x.tv.val, .slice a len cap] W fun e W' => ∃ (y : TV) (r : Int), e = .returned (.tuple #[y.val, .int .i64 r]) ∧ Below W.heap.size W W' ∧ Gave (2 * n + 2) W.heap.size W' y c := by
  cases hok : okT x with
  | false => exact ⟨zeroC, zero_wide, fun W hb => (at_bad x a len cap W (at_world hT hb) hok).mono fun e W' h => ⟨zeroT, 2, h.1, h.2, gave_zero (by omega)⟩⟩
  | true =>
    cases hat : atT ns x with
    | none =>
      refine ⟨zeroC, zero_wide, fun W hb => (at_any x ns a len cap W (at_world hT hb) hok (hN.below hb)).mono fun e W' ⟨y, r, h1, h2, h3⟩ => ⟨y, r, h1, h2, ?_⟩⟩
      rcases h3 with ⟨_, h, _⟩ | ⟨m, u, h, _⟩
      · rw [h]; exact gave_zero (by omega)
      · rw [hat] at h; cases h
    | some mu =>
      obtain ⟨m, u⟩ := mu
      have hm := atT_lim ns hat
      refine ⟨code u, okC50 (okT_okC (atT_ok ns hok hat)), fun W hb => (at_any x ns a len cap W (at_world hT hb) hok (hN.below hb)).mono fun e W' ⟨y, r, h1, h2, h3⟩ => ⟨y, r, h1, h2, ?_⟩⟩
      rcases h3 with ⟨h, _⟩ | ⟨m', u', h, _, h4⟩
      · rw [hat] at h; cases h
      · rw [hat] at h
        cases h
        exact gave_of h4.whole (by omega) (by omega)
theorem putC_ok {cy : List Nd} (hy : okC cy) : ∀ (ns : List Int) {n : Nat} {t : Tm n}, okT t = true → okC (putC ns t cy) := by
  intro ns
  induction ns with
  | nil => intro n t _; exact hy
  | cons k r ih =>
    intro n t hok
    cases n with
    | zero => exact Empty.elim t
    | succ n =>
      have hc : okC (code t) := okT_okC hok
      have hk := ok_kids' hok
      obtain ⟨x, kids⟩ := t
      rw [code_succ] at hc
      unfold okC at hc ⊢
      rw [List.all_cons, Bool.and_eq_true] at hc
      show (TV.nd x :: putL k.toNat (fun u => putC r u cy) kids).all okNd = true
      rw [List.all_cons, Bool.and_eq_true]
      refine ⟨hc.1, List.all_eq_true.2 fun y hy => ?_⟩
      obtain ⟨p, hp, hyp⟩ := List.mem_flatMap.1 hy
      have hpk : p.1 ∈ kids := List.fst_mem_of_mem_zipIdx hp
      by_cases e : p.2 = k.toNat
      · rw [if_pos e] at hyp
        exact List.all_eq_true.1 (ih (hk p.1 hpk)) y hyp
      · rw [if_neg e] at hyp
        exact List.all_eq_true.1 (okT_okC (hk p.1 hpk)) y hyp
theorem put_gives {n : Nat} (x y : Tm n) (ns : List Int) (a : Option Addr) (len cap : Nat) (w : World) (hx : IsT w.heap.size w x) (hy : IsT w.heap.size w y) (hN : IsN w a len ns) (hn : n ≤ 274877906944) : ∃ c, Wide c ∧ ∀ W, Below w.heap.size w W →
    Calls Tryz.prog 23 #[x.tv.val, .slice a len cap, y.tv.val] W fun e W' => ∃ (z : TV) (r : Int), e = .returned (.tuple #[z.val, .int .i64 r]) ∧ Below W.heap.size W W' ∧ Gave (2 * n + 2) W.heap.size W' z c := by
  by_cases hok : okT x = true ∧ okT y = true
  · by_cases hat : atT ns x = none
    · refine ⟨zeroC, zero_wide, fun W hb => (put_new x y ns a len cap W (at_world hx hb) (at_world hy hb) hok.1 hok.2 (hN.below hb)).mono fun e W' ⟨z, r, h1, h2, h3⟩ => ⟨z, r, h1, h2, ?_⟩⟩
      rcases h3 with ⟨_, h, _⟩ | ⟨h, _⟩
      · rw [h]; exact gave_zero (by omega)
      · exact (h hat).elim
    · refine ⟨putC ns x (code y), okC50 (putC_ok (okT_okC hok.2) ns hok.1), fun W hb => (put_new x y ns a len cap W (at_world hx hb) (at_world hy hb) hok.1 hok.2 (hN.below hb)).mono fun e W' ⟨z, r, h1, h2, h3⟩ => ⟨z, r, h1, h2, ?_⟩⟩
      rcases h3 with ⟨h, _⟩ | ⟨_, _, h⟩
      · exact (hat h).elim
      · exact gave_of h (by omega) (by omega)
  · exact ⟨zeroC, zero_wide, fun W hb => (put_bad x y a len cap W (at_world hx hb) (at_world hy hb) (both_no hok)).mono fun e W' h => ⟨zeroT, 2, h.1, h.2, gave_zero (by omega)⟩⟩
end Go.Proofs.YtojefplapklbmaaGreatDoor

/- The contract of hornkeep.composed, and the closures of the law as functions that give. -/
namespace Go.Proofs.YtojefplapklbmaaGreatDoor
open Go.RowKit Go.Shelf Go.Maps

theorem compose_gives {n : Nat} (ss us : List (Int × Tm n)) (a a' : Option Addr) (len cap len' cap' : Nat) (w : World) (hl : IsL w.heap.size w a len ss) (hl' : IsL w.heap.size w a' len' us) (hbig : len + len' ≤ 4194304) (hn : n ≤ 274877906944) : ∃ cc, ∀ W, Below w.heap.size w W →
    Calls Tryz.prog 69 #[.slice a len cap, .slice a' len' cap'] W fun e W' => ∃ (la : Option Addr) (ll lc : Nat) (r : Int), e = .returned (.tuple #[.slice la ll lc, .int .i64 r]) ∧ Below W.heap.size W W' ∧ CanB (n + (n + 1)) W.heap.size W'.heap.size W' la ll lc ∧ ∃ bs' : List (Int × Tm (n + (n + 1))), IsL W'.heap.size W' la ll bs' ∧ cb bs' = cc := by
  by_cases hok : ((∀ p ∈ ss, okT p.2 = true) ∧ Subst ss) ∧ (∀ p ∈ us, okT p.2 = true) ∧ Subst us
  · refine ⟨insF (madeC (cb ss) (cb us)), fun W hb => (compose_new ss us a a' len cap len' cap' W ((hl.below hb).mono hb.size) ((hl'.below hb).mono hb.size) hok.1.1 hok.2.1 hok.1.2 hok.2.2 hbig (by omega)).mono fun e W' ⟨la, ll, lc, h1, h2, h3, h4⟩ => ?_⟩
    obtain ⟨a2, len2, cap2, l2, e1, hs, _⟩ := h3
    cases e1
    obtain ⟨ks, k1, k2, _⟩ := hs.2 (n + (n + 1)) (Nat.le_refl _) (by omega)
    exact ⟨la, ll, lc, 0, h1, h2, h4, ks, k1, k2⟩
  · refine ⟨[], fun W hb => (compose_bad ss us a a' len cap len' cap' W ((hl.below hb).mono hb.size) ((hl'.below hb).mono hb.size) (fun h => hok ?_)).mono fun e W' ⟨r, h1, _, h3⟩ => ⟨none, 0, 0, r, h1, h3, .inl ⟨rfl, rfl, rfl⟩, [], ⟨rfl, by omega, .inl rfl⟩, rfl⟩⟩
    have h1 := h.1 _ (List.mem_cons_self ..)
    have h2 := h.1 _ (List.mem_cons_of_mem _ (List.mem_cons_self ..))
    have h3 := h.2 _ (List.mem_cons_self ..)
    have h4 := h.2 _ (List.mem_cons_of_mem _ (List.mem_cons_self ..))
    exact ⟨⟨h1, h3⟩, h2, h4⟩
set_option maxRecDepth 100000 in
set_option maxHeartbeats 2000000 in
theorem composed_any {n : Nat} (ss us : List (Int × Tm n)) (a a' : Option Addr) (len cap len' cap' : Nat) (w : World) (hl : IsL w.heap.size w a len ss) (hl' : IsL w.heap.size w a' len' us) (hbig : len + len' ≤ 4194304) (hn : n ≤ 274877906944) : ∃ cc, ∀ W, Below w.heap.size w W →
    Calls Tryz.prog 25 #[.slice a len cap, .slice a' len' cap'] W fun e W' => ∃ (la : Option Addr) (ll lc : Nat), e = .returned (.slice la ll lc) ∧ Below W.heap.size W W' ∧ ∃ bs' : List (Int × Tm (n + (n + 1))), IsL W'.heap.size W' la ll bs' ∧ cb bs' = cc := by
  obtain ⟨cc, hc⟩ := compose_gives ss us a a' len cap len' cap' w hl hl' hbig hn
  refine ⟨cc, fun W hb => ?_⟩
  have h1 := hc W hb
  have HC := hide hc
  clear hc hl hl'
  go_enter Tryz.func25, Tryz.ntmps25
  go_wp2_with fail
  refine h1.mono ?_
  clear h1
  rintro e W1 ⟨la, ll, lc, r, rfl, b1, can1, -⟩
  have hs := spoilBinds_any (n + (n + 1)) W.heap.size W1.heap.size W1 la ll lc b1.size (Nat.le_refl _) can1
  clear can1
  go_wp2_with fail
  refine hs.mono ?_
  clear hs
  rintro e W2 ⟨rfl, b2⟩
  have b02 : Below W.heap.size W W2 := b1.trans b2
  have h1 := HC.out W2 (hb.trans (b02.mono hb.size))
  clear HC b1 b2
  go_wp2_with fail
  refine h1.mono ?_
  clear h1
  rintro e W3 ⟨la, ll, lc, r, rfl, b3, -, hbs⟩
  have HB := hide hbs
  clear hbs
  go_wp2_with fail
  go_ret
  exact ⟨la, ll, lc, rfl, b02.trans (b3.mono b02.size), unhide HB⟩
/-- The variables that the closures hold on to. -/
theorem box_at {w W : World} {B : Nat} {x : TV} (h : BoxT w B x) (hb : Below w.heap.size w W) : BoxT W B x := (hb.block B h.lt).trans h
end Go.Proofs.YtojefplapklbmaaGreatDoor

/- The closures of the law as functions that give. (Written by wip/closgen6.py.) -/
namespace Go.Proofs.YtojefplapklbmaaGreatDoor
open Go.RowKit Go.Shelf Go.Maps

theorem boxed_at {w W : World} {B : Nat} {T : TypeId} {v : Value} (h : Boxed w B T v) (hb : Below w.heap.size w W) : Boxed W B T v := (hb.block B (Array.getElem?_eq_some_iff.1 h).1).trans h
theorem wh_blk {lo : Nat} {W : World} : ∀ {n : Nat} {t : Tm n}, WhT lo W t → BlkT (lo ≤ ·) t := by
  intro n
  induction n with
  | zero => intro t; exact Empty.elim t
  | succ n ih =>
    intro t hw
    refine ⟨?_, fun u hu => ih (hw.2 u hu)⟩
    rcases hw.1 with h | ⟨b, arr, h1, h2, _⟩
    · exact .inl h.1
    · exact .inr ⟨b, 0, h2, h1⟩
/-- What is given is put into the variable t, and this into the result. -/
theorem gave_end {D : Nat} {W W2 : World} {y : TV} {c : List Nd} (hb : Below (W.alloc (.cells #[.int .i64 0, .int .i64 0, .string ⟨#[]⟩, .slice none 0 0] 24)).heap.size (W.alloc (.cells #[.int .i64 0, .int .i64 0, .string ⟨#[]⟩, .slice none 0 0] 24)) W2) (hg : Gave D (W.alloc (.cells #[.int .i64 0, .int .i64 0, .string ⟨#[]⟩, .slice none 0 0] 24)).heap.size W2 y c) (hz : (W.alloc (.cells #[.int .i64 0, .int .i64 0, .string ⟨#[]⟩, .slice none 0 0] 24)).heap[W.heap.size]? = some (.cells #[.int .i64 0, .int .i64 0, .string ⟨#[]⟩, .slice none 0 0] 24 (0, 0))) :
    Below W.heap.size W (set4 (W2.alloc (.cells #[.int .i64 y.k, .int .i64 y.N, .string y.s, .slice y.a y.len y.cap] 24)) W.heap.size 0 y) ∧ (∃ t : Tm D, y = t.tv ∧ IsT (set4 (W2.alloc (.cells #[.int .i64 y.k, .int .i64 y.N, .string y.s, .slice y.a y.len y.cap] 24)) W.heap.size 0 y).heap.size (set4 (W2.alloc (.cells #[.int .i64 y.k, .int .i64 y.N, .string y.s, .slice y.a y.len y.cap] 24)) W.heap.size 0 y) t ∧ WhT W.heap.size (set4 (W2.alloc (.cells #[.int .i64 y.k, .int .i64 y.N, .string y.s, .slice y.a y.len y.cap] 24)) W.heap.size 0 y) t ∧ code t = c)
      ∧ (W2.alloc (.cells #[.int .i64 y.k, .int .i64 y.N, .string y.s, .slice y.a y.len y.cap] 24)).heap[W.heap.size]? = some (.cells #[.int .i64 0, .int .i64 0, .string ⟨#[]⟩, .slice none 0 0] 24 (0, 0)) := by
  have hs1 : (W.alloc (.cells #[.int .i64 0, .int .i64 0, .string ⟨#[]⟩, .slice none 0 0] 24)).heap.size = W.heap.size + 1 := by simp
  rw [hs1] at hb hg
  have hs2 := hb.size
  rw [hs1] at hs2
  have hB1 : Below W.heap.size W (W.alloc (.cells #[.int .i64 0, .int .i64 0, .string ⟨#[]⟩, .slice none 0 0] 24)) := (Below.refl _ W).alloc (Nat.le_refl _) _
  have hB2 : Below W2.heap.size W2 (W2.alloc (.cells #[.int .i64 y.k, .int .i64 y.N, .string y.s, .slice y.a y.len y.cap] 24)) := (Below.refl _ W2).alloc (Nat.le_refl _) _
  have hBf : Below W.heap.size W (W2.alloc (.cells #[.int .i64 y.k, .int .i64 y.N, .string y.s, .slice y.a y.len y.cap] 24)) := (hB1.trans (hb.mono (by omega))).trans (hB2.mono (by omega))
  obtain ⟨t, h1, h2, h3, h4⟩ := hg
  have hk : ∀ b, W.heap.size + 1 ≤ b → b < W2.heap.size → (set4 (W2.alloc (.cells #[.int .i64 y.k, .int .i64 y.N, .string y.s, .slice y.a y.len y.cap] 24)) W.heap.size 0 y).heap[b]? = W2.heap[b]? := fun b hb1 hb2 => (set4_other _ _ _ _ (by omega)).trans (hB2.block b hb2)
  refine ⟨set4_below hBf (Nat.le_refl _) 0 y, ⟨t, h1, ?_, WhT.mono (Nat.le_succ _) (WhT.kept hk h3), h4⟩, ?_⟩
  · refine (h2.fromS (S := fun b => W.heap.size + 1 ≤ b ∧ b < W2.heap.size) (fun b hb => hk b hb.1 hb.2) ((wh_blk h3).and h2.blk)).mono ?_
    rw [set4_size]
    simp
  · exact (hB2.block _ (by omega)).trans ((hb.block _ (by omega)).trans hz)

set_option maxRecDepth 100000 in
set_option maxHeartbeats 2000000 in
theorem gives1 {n : Nat} (x : Tm n) (B : Nat) (w : World) (hT : IsT w.heap.size w x) (hB : BoxT w B x.tv) (hn : n ≤ 274877906944) : ∃ c, Wide c ∧ Gives 14 #[.pointer (some ⟨B, 0, none⟩)] (2 * n + 2) c w := by
  obtain ⟨c, hw, hc⟩ := rename_gives x w hT hn
  refine ⟨c, hw, fun W hb => ?_⟩
  have hb1 : Below w.heap.size w (W.alloc (.cells #[.int .i64 0, .int .i64 0, .string ⟨#[]⟩, .slice none 0 0] 24)) := hb.alloc hb.size _
  have h1 := hc _ hb1
  have hbx0 := box_at hB hb1
  have x00 := hbx0.c0
  have x01 := hbx0.c1
  have x02 := hbx0.c2
  have x03 := hbx0.c3
  have hzb := World.alloc_heap_new W (.cells #[.int .i64 0, .int .i64 0, .string ⟨#[]⟩, .slice none 0 0] 24)
  have HZ := hide hzb
  simp only [TV.val] at h1
  clear hc hw hzb hbx0
  go_enter Tryz.func14, Tryz.ntmps14
  go_wp2_with fail
  refine h1.mono ?_
  clear h1 x00 x01 x02 x03
  rintro e W2 ⟨y, k, r, rfl, b2, hgv⟩
  obtain ⟨HF1, HF2, hz0⟩ := gave_end (W := W) b2 hgv (unhide HZ)
  obtain ⟨⟨z0, z1, z2, z3⟩, f0, f1, f2, f3⟩ := zbox_kept hz0
  have HG1 := hide HF1
  have HG2 := hide HF2
  clear HF1 HF2 hz0 b2 hgv
  go_wp2_with fail
  obtain ⟨t, rfl, t1, t2, t3⟩ := unhide HG2
  exact bodyPost_ret (v := t.tv.val) (by simp [results, Tryz.results14, go_sem, TV.val, z0, z1, z2, z3]) rfl ⟨t, rfl, unhide HG1, t1, t2, t3⟩
set_option maxRecDepth 100000 in
set_option maxHeartbeats 2000000 in
theorem gives2 {n : Nat} (x : Tm n) (ss : List (Int × Tm n)) (a : Option Addr) (len cap B Bp : Nat) (w : World) (hT : IsT w.heap.size w x) (hB : BoxT w B x.tv) (hL : IsL w.heap.size w a len ss) (hP : Boxed w Bp 32 (.slice a len cap)) (hn : n ≤ 274877906944) : ∃ c, Wide c ∧ Gives 16 #[.pointer (some ⟨B, 0, none⟩), .pointer (some ⟨Bp, 0, none⟩)] (2 * n + 2) c w := by
  obtain ⟨c, hw, hc⟩ := apply_gives x ss a len cap w hT hL hn
  refine ⟨c, hw, fun W hb => ?_⟩
  have hb1 : Below w.heap.size w (W.alloc (.cells #[.int .i64 0, .int .i64 0, .string ⟨#[]⟩, .slice none 0 0] 24)) := hb.alloc hb.size _
  have h1 := hc _ hb1
  have hbx0 := box_at hB hb1
  have x00 := hbx0.c0
  have x01 := hbx0.c1
  have x02 := hbx0.c2
  have x03 := hbx0.c3
  have x10 := (boxed_at hP hb1).cell
  have hzb := World.alloc_heap_new W (.cells #[.int .i64 0, .int .i64 0, .string ⟨#[]⟩, .slice none 0 0] 24)
  have HZ := hide hzb
  simp only [TV.val] at h1
  clear hc hw hzb hbx0
  go_enter Tryz.func16, Tryz.ntmps16
  go_wp2_with fail
  refine h1.mono ?_
  clear h1 x00 x01 x02 x03 x10
  rintro e W2 ⟨y, r, rfl, b2, hgv⟩
  obtain ⟨HF1, HF2, hz0⟩ := gave_end (W := W) b2 hgv (unhide HZ)
  obtain ⟨⟨z0, z1, z2, z3⟩, f0, f1, f2, f3⟩ := zbox_kept hz0
  have HG1 := hide HF1
  have HG2 := hide HF2
  clear HF1 HF2 hz0 b2 hgv
  go_wp2_with fail
  obtain ⟨t, rfl, t1, t2, t3⟩ := unhide HG2
  exact bodyPost_ret (v := t.tv.val) (by simp [results, Tryz.results16, go_sem, TV.val, z0, z1, z2, z3]) rfl ⟨t, rfl, unhide HG1, t1, t2, t3⟩
set_option maxRecDepth 100000 in
set_option maxHeartbeats 2000000 in
theorem gives3 {n : Nat} (x y : Tm n) (B B' : Nat) (w : World) (hT : IsT w.heap.size w x) (hB : BoxT w B x.tv) (hT' : IsT w.heap.size w y) (hB' : BoxT w B' y.tv) (px : okT x = true → ∀ z ∈ parts x, Pw z) (py : okT y = true → ∀ z ∈ parts y, Pw z) (hlx : (parts x).length ≤ 1000000000) (hly : (parts y).length ≤ 1000000000) (htab : Tab w.heap.size w) (hn : n ≤ 274877906944) : ∃ c, Wide c ∧ Gives 18 #[.pointer (some ⟨B, 0, none⟩), .pointer (some ⟨B', 0, none⟩)] (2 * n + 2) c w := by
  obtain ⟨c, hw, hc⟩ := general_gives x y w hT hT' px py hlx hly htab hn
  refine ⟨c, hw, fun W hb => ?_⟩
  have hb1 : Below w.heap.size w (W.alloc (.cells #[.int .i64 0, .int .i64 0, .string ⟨#[]⟩, .slice none 0 0] 24)) := hb.alloc hb.size _
  have h1 := hc _ hb1
  have hbx0 := box_at hB hb1
  have x00 := hbx0.c0
  have x01 := hbx0.c1
  have x02 := hbx0.c2
  have x03 := hbx0.c3
  have hbx1 := box_at hB' hb1
  have x10 := hbx1.c0
  have x11 := hbx1.c1
  have x12 := hbx1.c2
  have x13 := hbx1.c3
  have hzb := World.alloc_heap_new W (.cells #[.int .i64 0, .int .i64 0, .string ⟨#[]⟩, .slice none 0 0] 24)
  have HZ := hide hzb
  simp only [TV.val] at h1
  clear hc hw hzb hbx0 hbx1
  go_enter Tryz.func18, Tryz.ntmps18
  go_wp2_with fail
  refine h1.mono ?_
  clear h1 x00 x01 x02 x03 x10 x11 x12 x13
  rintro e W2 ⟨y, r, rfl, b2, hgv⟩
  obtain ⟨HF1, HF2, hz0⟩ := gave_end (W := W) b2 hgv (unhide HZ)
  obtain ⟨⟨z0, z1, z2, z3⟩, f0, f1, f2, f3⟩ := zbox_kept hz0
  have HG1 := hide HF1
  have HG2 := hide HF2
  clear HF1 HF2 hz0 b2 hgv
  go_wp2_with fail
  obtain ⟨t, rfl, t1, t2, t3⟩ := unhide HG2
  exact bodyPost_ret (v := t.tv.val) (by simp [results, Tryz.results18, go_sem, TV.val, z0, z1, z2, z3]) rfl ⟨t, rfl, unhide HG1, t1, t2, t3⟩
set_option maxRecDepth 100000 in
set_option maxHeartbeats 2000000 in
theorem gives4 {n : Nat} (x : Tm n) (ns : List Int) (a : Option Addr) (len cap B Bp : Nat) (w : World) (hT : IsT w.heap.size w x) (hB : BoxT w B x.tv) (hN : IsN w a len ns) (hP : Boxed w Bp 25 (.slice a len cap)) (hn : n ≤ 274877906944) : ∃ c, Wide c ∧ Gives 20 #[.pointer (some ⟨B, 0, none⟩), .pointer (some ⟨Bp, 0, none⟩)] (2 * n + 2) c w := by
  obtain ⟨c, hw, hc⟩ := at_gives x ns a len cap w hT hN hn
  refine ⟨c, hw, fun W hb => ?_⟩
  have hb1 : Below w.heap.size w (W.alloc (.cells #[.int .i64 0, .int .i64 0, .string ⟨#[]⟩, .slice none 0 0] 24)) := hb.alloc hb.size _
  have h1 := hc _ hb1
  have hbx0 := box_at hB hb1
  have x00 := hbx0.c0
  have x01 := hbx0.c1
  have x02 := hbx0.c2
  have x03 := hbx0.c3
  have x10 := (boxed_at hP hb1).cell
  have hzb := World.alloc_heap_new W (.cells #[.int .i64 0, .int .i64 0, .string ⟨#[]⟩, .slice none 0 0] 24)
  have HZ := hide hzb
  simp only [TV.val] at h1
  clear hc hw hzb hbx0
  go_enter Tryz.func20, Tryz.ntmps20
  go_wp2_with fail
  refine h1.mono ?_
  clear h1 x00 x01 x02 x03 x10
  rintro e W2 ⟨y, r, rfl, b2, hgv⟩
  obtain ⟨HF1, HF2, hz0⟩ := gave_end (W := W) b2 hgv (unhide HZ)
  obtain ⟨⟨z0, z1, z2, z3⟩, f0, f1, f2, f3⟩ := zbox_kept hz0
  have HG1 := hide HF1
  have HG2 := hide HF2
  clear HF1 HF2 hz0 b2 hgv
  go_wp2_with fail
  obtain ⟨t, rfl, t1, t2, t3⟩ := unhide HG2
  exact bodyPost_ret (v := t.tv.val) (by simp [results, Tryz.results20, go_sem, TV.val, z0, z1, z2, z3]) rfl ⟨t, rfl, unhide HG1, t1, t2, t3⟩
set_option maxRecDepth 100000 in
set_option maxHeartbeats 2000000 in
theorem gives5 {n : Nat} (x y : Tm n) (ns : List Int) (a : Option Addr) (len cap B B' Bp : Nat) (w : World) (hT : IsT w.heap.size w x) (hB : BoxT w B x.tv) (hT' : IsT w.heap.size w y) (hB' : BoxT w B' y.tv) (hN : IsN w a len ns) (hP : Boxed w Bp 25 (.slice a len cap)) (hn : n ≤ 274877906944) : ∃ c, Wide c ∧ Gives 22 #[.pointer (some ⟨B, 0, none⟩), .pointer (some ⟨Bp, 0, none⟩), .pointer (some ⟨B', 0, none⟩)] (2 * n + 2) c w := by
  obtain ⟨c, hw, hc⟩ := put_gives x y ns a len cap w hT hT' hN hn
  refine ⟨c, hw, fun W hb => ?_⟩
  have hb1 : Below w.heap.size w (W.alloc (.cells #[.int .i64 0, .int .i64 0, .string ⟨#[]⟩, .slice none 0 0] 24)) := hb.alloc hb.size _
  have h1 := hc _ hb1
  have hbx0 := box_at hB hb1
  have x00 := hbx0.c0
  have x01 := hbx0.c1
  have x02 := hbx0.c2
  have x03 := hbx0.c3
  have hbx1 := box_at hB' hb1
  have x10 := hbx1.c0
  have x11 := hbx1.c1
  have x12 := hbx1.c2
  have x13 := hbx1.c3
  have x20 := (boxed_at hP hb1).cell
  have hzb := World.alloc_heap_new W (.cells #[.int .i64 0, .int .i64 0, .string ⟨#[]⟩, .slice none 0 0] 24)
  have HZ := hide hzb
  simp only [TV.val] at h1
  clear hc hw hzb hbx0 hbx1
  go_enter Tryz.func22, Tryz.ntmps22
  go_wp2_with fail
  refine h1.mono ?_
  clear h1 x00 x01 x02 x03 x10 x11 x12 x13 x20
  rintro e W2 ⟨y, r, rfl, b2, hgv⟩
  obtain ⟨HF1, HF2, hz0⟩ := gave_end (W := W) b2 hgv (unhide HZ)
  obtain ⟨⟨z0, z1, z2, z3⟩, f0, f1, f2, f3⟩ := zbox_kept hz0
  have HG1 := hide HF1
  have HG2 := hide HF2
  clear HF1 HF2 hz0 b2 hgv
  go_wp2_with fail
  obtain ⟨t, rfl, t1, t2, t3⟩ := unhide HG2
  exact bodyPost_ret (v := t.tv.val) (by simp [results, Tryz.results22, go_sem, TV.val, z0, z1, z2, z3]) rfl ⟨t, rfl, unhide HG1, t1, t2, t3⟩
end Go.Proofs.YtojefplapklbmaaGreatDoor

