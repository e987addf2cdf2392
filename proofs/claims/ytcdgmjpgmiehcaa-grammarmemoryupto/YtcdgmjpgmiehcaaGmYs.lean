import Derived.Test.YtcdgmjpgmiehcaaGmQs
import Derived.Test.YtcdgmjpgmiehcaaTvg
import Derived.Test.YtcdgmjpgmiehcaaGqQ
/- grammar.firstFree. -/
namespace Go.Proofs.Ytcdgmjpgmiehcaa
open Go.RowKit Go.Shelf Go.Maps

def bfold (n : Int) (l : List Int) : Int := l.foldl (fun n N => max n (N + 1)) n
def freeC {n : Nat} (ts : List (Tm n)) : Int := ts.foldl (fun m t => bfold m (varsC [] (code t))) 0
theorem free_take {n : Nat} {ts : List (Tm n)} {j : Nat} {u : Tm n} (h : ts[j]? = some u) : freeC (ts.take (j + 1)) = bfold (freeC (ts.take j)) (varsC [] (code u)) := by
  unfold freeC
  rw [List.take_add_one, h, List.foldl_append]
  rfl
theorem bfold_take {l : List Int} {j : Nat} {m N : Int} (h : l[j]? = some N) : bfold m (l.take (j + 1)) = max (bfold m (l.take j)) (N + 1) := by
  unfold bfold
  rw [List.take_add_one, h, List.foldl_append]
  rfl
theorem bfold_le {l : List Int} {m a : Int} (h0 : 0 ≤ m) (h1 : m ≤ a) (h : ∀ N ∈ l, N + 1 ≤ a) : 0 ≤ bfold m l ∧ bfold m l ≤ a := by
  unfold bfold
  induction l generalizing m with
  | nil => exact ⟨h0, h1⟩
  | cons c l ih =>
    rw [List.foldl_cons]
    exact ih (by omega) (by have := h c (by simp); omega) (fun N hN => h N (by simp [hN]))
theorem ok_num {n : Nat} {t : Tm n} (hok : okT t = true) {N : Int} (h : N ∈ varsC [] (code t)) : 0 ≤ N ∧ N + 1 ≤ 1099511627777 := by
  have hv := (steps_mem (code t) [] N).1 h
  simp only [List.not_mem_nil, false_or] at hv
  obtain ⟨y, hy, h1, h2⟩ := hv
  rw [okT_m, List.all_eq_true] at hok
  have := hok y hy
  obtain ⟨a, b, c, d⟩ := y
  simp only at h1 h2
  subst h1 h2
  simp [okM] at this
  omega
theorem free_le {n : Nat} {ts : List (Tm n)} (hok : ∀ u ∈ ts, okT u = true) : 0 ≤ freeC ts ∧ freeC ts ≤ 1099511627777 := by
  unfold freeC
  have key : ∀ (ts : List (Tm n)) (m : Int), 0 ≤ m → m ≤ 1099511627777 → (∀ u ∈ ts, okT u = true) → 0 ≤ ts.foldl (fun m t => bfold m (varsC [] (code t))) m ∧ ts.foldl (fun m t => bfold m (varsC [] (code t))) m ≤ 1099511627777 := by
    intro ts
    induction ts with
    | nil => intro m h0 h1 _; exact ⟨h0, h1⟩
    | cons t ts ih =>
      intro m h0 h1 h
      rw [List.foldl_cons]
      have := bfold_le h0 h1 (fun N hN => (ok_num (h t (by simp)) hN).2)
      exact ih _ this.1 this.2 (fun u hu => h u (by simp [hu]))
  exact key ts 0 (Int.le_refl _) (by omega) hok
set_option maxRecDepth 100000 in
set_option maxHeartbeats 4000000 in
theorem free_ok {n : Nat} (ts : List (Tm n)) (a : Option Addr) (len cap : Nat) (w : World) (hlen : len = ts.length) (hmax : len ≤ 9223372036854775807) (hok : ∀ u ∈ ts, okT u = true) (hl : ∀ u ∈ ts, (parts u).length ≤ 4194304)
    (hts : ts = [] ∨ ∃ b off, a = some ⟨b, off, none⟩ ∧ b < w.heap.size ∧ ∀ j u, ts[j]? = some u → cellsAt w b (off + j * 4) u.tv ∧ IsT w.heap.size w u) :
    Calls Try.prog 27 #[.slice a len cap] w fun e W' => e = .returned (.tuple #[.int .i64 (freeC ts), .int .i64 0]) ∧ Below w.heap.size w W' := by
  have hl1 : len ≤ ts.length := by omega
  have hl2 : ts.length ≤ len := by omega
  have HOK := hide (And.intro hok hl)
  clear hlen hok hl
  go_enter Try.func27, Try.ntmps27
  go_wp2_with fail
  go_loopw [4, 13] (fun n i wr => ∃ j : Nat, j ≤ len ∧ i = .int .i64 j ∧ n = .int .i64 (freeC (ts.take j)) ∧ Below w.heap.size w wr) (fun _ i _ => len - (intOf i).toNat)
  case atStart => exact ⟨0, Nat.zero_le _, rfl, rfl, Below.refl _ _⟩
  case round =>
    obtain ⟨j, hj, rfl, rfl, hb⟩ := hrel
    by_cases hlt : j < len
    · obtain ⟨u, b, off, hu, rfl, ⟨c0, c1, c2, c3⟩, hT, hbk⟩ := kid_at hts hb hlt hl1
      have hum := List.mem_of_getElem? hu
      obtain ⟨V1, hV1⟩ : ∃ V1, wr.alloc (.cells #[.int .i64 u.tv.k, .int .i64 u.tv.N, .string u.tv.s, .slice u.tv.a u.tv.len u.tv.cap] 24) = V1 := ⟨_, rfl⟩
      have g1 : Below wr.heap.size wr V1 := by rw [← hV1]; exact (Below.refl _ wr).alloc (Nat.le_refl _) _
      have b1 : BoxT V1 wr.heap.size u.tv := by rw [← hV1]; exact BoxT.new wr u.tv
      have d0 := b1.c0
      have d1 := b1.c1
      have d2 := b1.c2
      have d3 := b1.c3
      have HV := hide (vars_any u V1 ((hT.below g1).mono g1.size) ((unhide HOK).1 u hum) ((unhide HOK).2 u hum))
      have HE := hide (free_take hu)
      have hfr := free_le (ts := ts.take j) (fun u hu => (unhide HOK).1 u (List.mem_of_mem_take hu))
      have HQ : Hid (∀ N ∈ varsC [] (code u), 0 ≤ N ∧ N + 1 ≤ 1099511627777) := hide fun N hN => ok_num ((unhide HOK).1 u hum) hN
      have hlv := varsC_len [] (code u)
      have hpl : (code u).length ≤ 4194304 := by have := (unhide HOK).2 u hum; unfold code; rw [List.length_map]; exact this
      rw [List.length_nil, Nat.zero_add] at hlv
      have HG := hide (And.intro hb g1)
      clear b1 hT hu hum
      simp only [TV.val] at HV
      go_wp2_with fail
      try rw [hV1]
      go_wp2_with fail
      refine (unhide HV).mono ?_
      rintro e V2 ⟨v, rfl, hO, h2⟩
      obtain ⟨va, vc, rfl, hN⟩ := hO.isN (by omega)
      have HN := hide hN
      have HF := hide ((unhide HG).1.trans (((unhide HG).2.trans (h2.mono (unhide HG).2.size)).mono (unhide HG).1.size))
      clear hO hN h2 HV HG hb
      generalize varsC [] (code u) = vs at *
      generalize freeC (ts.take j) = m0 at *
      go_wp2_with fail
      go_loopw [4, 27] (fun n i wr2 => ∃ k : Nat, k ≤ vs.length ∧ i = .int .i64 k ∧ n = .int .i64 (bfold m0 (vs.take k)) ∧ wr2 = V2) (fun _ i _ => vs.length - (intOf i).toNat)
      case atStart => exact ⟨0, Nat.zero_le _, rfl, rfl, rfl⟩
      case round =>
        obtain ⟨k, hk, rfl, rfl, rfl⟩ := hrel
        by_cases hlt2 : k < vs.length
        · obtain ⟨M, b', off', hM, rfl, e0⟩ := num_at (unhide HN) hlt2
          have hM2 := (unhide HQ) M (List.mem_of_getElem? hM)
          have HB := hide (bfold_take (m := m0) hM)
          have hb2 := bfold_le (l := vs.take k) (m := m0) (a := 1099511627777) hfr.1 hfr.2 (fun N hN => ((unhide HQ) N (List.mem_of_mem_take hN)).2)
          have hk1 : (k : Int) < vs.length := by omega
          clear hM
          generalize bfold m0 (vs.take k) = p at *
          go_wp2_with fail
          go_roundw
          case rel => exact ⟨k + 1, by omega, by go_num, by rw [unhide HB], trivial⟩
          case measure => simp [intOf]; omega
        · have ht : vs.take k = vs := List.take_of_length_le (by omega)
          have hk1 : ¬ (k : Int) < vs.length := by omega
          rw [ht, ← unhide HE]
          clear ht
          go_wp2_with fail
          go_roundw
          case rel => exact ⟨j + 1, by omega, by go_num, rfl, unhide HF⟩
          case measure => simp [intOf]; omega
    · have ht : ts.take j = ts := List.take_of_length_le (by omega)
      rw [ht]
      clear ht hts
      go_wp2_with fail
      exact bodyPost_ret (v := .tuple #[.int .i64 (freeC ts), .int .i64 0]) (by simp [results, Try.results27, go_sem]) rfl ⟨rfl, hb⟩
end Go.Proofs.Ytcdgmjpgmiehcaa

/- Both ways the first free number is the same: mathematics. -/
namespace Go.Proofs.Ytcdgmjpgmiehcaa
open Go.RowKit Go.Shelf Go.Maps

theorem bfold_iff (l : List Int) (m x : Int) : bfold m l ≤ x ↔ m ≤ x ∧ ∀ N ∈ l, N + 1 ≤ x := by
  unfold bfold
  induction l generalizing m with
  | nil => simp
  | cons c l ih =>
    rw [List.foldl_cons, ih]
    constructor
    · rintro ⟨h1, h2⟩
      refine ⟨by omega, fun N hN => ?_⟩
      rcases List.mem_cons.1 hN with rfl | hN
      · omega
      · exact h2 N hN
    · rintro ⟨h1, h2⟩
      have := h2 c (by simp)
      exact ⟨by omega, fun N hN => h2 N (by simp [hN])⟩
theorem free_iff {n : Nat} (ts : List (Tm n)) (x : Int) : freeC ts ≤ x ↔ 0 ≤ x ∧ ∀ N, IsVarOf (ts.flatMap code) N → N + 1 ≤ x := by
  unfold freeC
  have key : ∀ (ts : List (Tm n)) (m : Int), ts.foldl (fun m t => bfold m (varsC [] (code t))) m ≤ x ↔ m ≤ x ∧ ∀ N, IsVarOf (ts.flatMap code) N → N + 1 ≤ x := by
    intro ts
    induction ts with
    | nil =>
      intro m
      refine ⟨fun h => ⟨h, fun N hN => ?_⟩, fun h => h.1⟩
      obtain ⟨y, hy, _⟩ := hN
      cases hy
    | cons t ts ih =>
      intro m
      rw [List.foldl_cons, ih, bfold_iff]
      have hv : ∀ N, N ∈ varsC [] (code t) ↔ IsVarOf (code t) N := fun N => by
        have := steps_mem (code t) [] N
        simpa using this
      constructor
      · rintro ⟨⟨h1, h2⟩, h3⟩
        refine ⟨h1, fun N hN => ?_⟩
        rw [List.flatMap_cons, isVar_append] at hN
        rcases hN with hN | hN
        · exact h2 N ((hv N).2 hN)
        · exact h3 N hN
      · rintro ⟨h1, h2⟩
        exact ⟨⟨h1, fun N hN => h2 N (by rw [List.flatMap_cons, isVar_append]; exact .inl ((hv N).1 hN))⟩, fun N hN => h2 N (by rw [List.flatMap_cons, isVar_append]; exact .inr hN)⟩
  exact key ts 0
theorem free_beh {n : Nat} (ts : List (Tm n)) : freeC ts = behC (varsC [] (ts.flatMap code)) := by
  have h : ∀ x, freeC ts ≤ x ↔ behC (varsC [] (ts.flatMap code)) ≤ x := fun x => by
    rw [free_iff]
    show _ ↔ bfold 0 _ ≤ x
    rw [bfold_iff]
    have hv : ∀ N, N ∈ varsC [] (ts.flatMap code) ↔ IsVarOf (ts.flatMap code) N := fun N => by
      have := steps_mem (ts.flatMap code) [] N
      simpa using this
    exact and_congr_right fun _ => ⟨fun h N hN => h N ((hv N).1 hN), fun h N hN => h N ((hv N).2 hN)⟩
  have h1 := (h (freeC ts)).1 (Int.le_refl _)
  have h2 := (h (behC (varsC [] (ts.flatMap code)))).2 (Int.le_refl _)
  omega
end Go.Proofs.Ytcdgmjpgmiehcaa

/- grammar's firstFree of what is wrong. (Written by wip/gqphrasegen.py.) -/
namespace Go.Proofs.Ytcdgmjpgmiehcaa
open Go.RowKit Go.Shelf

theorem cnt_le : ∀ {n : Nat} (t : Tm n), Wl t → cntT t ≤ (code t).length := by
  intro n
  induction n with
  | zero => intro t; exact Empty.elim t
  | succ n ih =>
    intro t hw
    obtain ⟨x, kids⟩ := t
    rw [cntT_succ, code_succ, List.length_cons]
    have hk : (kids.map cntT).sum ≤ (kids.flatMap code).length := by
      have hwk : ∀ z ∈ kids, Wl z := hw.2
      clear hw
      induction kids with
      | nil => simp
      | cons a l ihl =>
        have h1 := ih a (hwk a (by simp))
        have h2 := ihl (fun z hz => hwk z (by simp [hz]))
        rw [List.map_cons, List.sum_cons, List.flatMap_cons, List.length_append]
        omega
    split
    · omega
    · split
      · omega
      · omega
set_option maxRecDepth 100000 in
set_option maxHeartbeats 4000000 in
theorem free_bad {n : Nat} (ts : List (Tm n)) (a : Option Addr) (len cap : Nat) (w : World) (hlen : len = ts.length) (hmax : len ≤ 9223372036854775807) (hbad : ∃ u ∈ ts, okT u = false) (hl : ∀ u ∈ ts, (parts u).length ≤ 4194304)
    (hts : ts = [] ∨ ∃ b off, a = some ⟨b, off, none⟩ ∧ b < w.heap.size ∧ ∀ j u, ts[j]? = some u → cellsAt w b (off + j * 4) u.tv ∧ IsT w.heap.size w u) :
    Calls Try.prog 27 #[.slice a len cap] w fun e W' => e = .returned (.tuple #[.int .i64 0, .int .i64 2]) ∧ Below w.heap.size w W' := by
  have hl1 : len ≤ ts.length := by omega
  have hl2 : ts.length ≤ len := by omega
  have HOK := hide (And.intro hbad hl)
  clear hlen hbad hl
  go_enter Try.func27, Try.ntmps27
  go_wp2_with fail
  go_loopw [4, 13] (fun n i wr => ∃ j : Nat, j ≤ len ∧ i = .int .i64 j ∧ n = .int .i64 (freeC (ts.take j)) ∧ Hid (∀ u ∈ ts.take j, okT u = true) ∧ Below w.heap.size w wr) (fun _ i _ => len - (intOf i).toNat)
  case atStart => exact ⟨0, Nat.zero_le _, rfl, rfl, hide (fun u hu => by simp at hu), Below.refl _ _⟩
  case round =>
    obtain ⟨j, hj, rfl, rfl, HOJ, hb⟩ := hrel
    by_cases hlt : j < len
    · obtain ⟨u, b, off, hu, rfl, ⟨c0, c1, c2, c3⟩, hT, hbk⟩ := kid_at hts hb hlt hl1
      have hum := List.mem_of_getElem? hu
      obtain ⟨V1, hV1⟩ : ∃ V1, wr.alloc (.cells #[.int .i64 u.tv.k, .int .i64 u.tv.N, .string u.tv.s, .slice u.tv.a u.tv.len u.tv.cap] 24) = V1 := ⟨_, rfl⟩
      have g1 : Below wr.heap.size wr V1 := by rw [← hV1]; exact (Below.refl _ wr).alloc (Nat.le_refl _) _
      have b1 : BoxT V1 wr.heap.size u.tv := by rw [← hV1]; exact BoxT.new wr u.tv
      have d0 := b1.c0
      have d1 := b1.c1
      have d2 := b1.c2
      have d3 := b1.c3
      by_cases huk : okT u = false
      · have HV := hide (vars_bad u V1 ((hT.below g1).mono g1.size) huk)
        have HG := hide (And.intro hb g1)
        clear b1 hT hu hum huk
        simp only [TV.val] at HV
        go_wp2_with fail
        try rw [hV1]
        go_wp2_with fail
        refine (unhide HV).mono ?_
        rintro e V2 ⟨rfl, h2⟩
        have HF := hide ((unhide HG).1.trans (((unhide HG).2.trans (h2.mono (unhide HG).2.size)).mono (unhide HG).1.size))
        clear h2 HV HG hb
        go_wp2_with fail
        exact bodyPost_ret (v := .tuple #[.int .i64 0, .int .i64 2]) (by simp [results, Try.results27, go_sem]) rfl ⟨rfl, unhide HF⟩
      have huk' : okT u = true := by simpa using huk
      clear huk
      have HOJ' : Hid (∀ v ∈ ts.take (j + 1), okT v = true) := hide fun v hv => by
        rw [List.take_add_one, hu] at hv
        rcases List.mem_append.1 hv with hv | hv
        · exact (unhide HOJ) v hv
        · have : v = u := by simpa using hv
          subst this
          exact huk'
      have HV := hide (vars_any u V1 ((hT.below g1).mono g1.size) huk' ((unhide HOK).2 u hum))
      have HE := hide (free_take hu)
      have hfr := free_le (ts := ts.take j) (unhide HOJ)
      have HQ : Hid (∀ N ∈ varsC [] (code u), 0 ≤ N ∧ N + 1 ≤ 1099511627777) := hide fun N hN => ok_num huk' hN
      have hlv := varsC_len [] (code u)
      have hpl : (code u).length ≤ 4194304 := by have := (unhide HOK).2 u hum; unfold code; rw [List.length_map]; exact this
      rw [List.length_nil, Nat.zero_add] at hlv
      have HG := hide (And.intro hb g1)
      clear b1 hT hu hum
      simp only [TV.val] at HV
      go_wp2_with fail
      try rw [hV1]
      go_wp2_with fail
      refine (unhide HV).mono ?_
      rintro e V2 ⟨v, rfl, hO, h2⟩
      obtain ⟨va, vc, rfl, hN⟩ := hO.isN (by omega)
      have HN := hide hN
      have HF := hide ((unhide HG).1.trans (((unhide HG).2.trans (h2.mono (unhide HG).2.size)).mono (unhide HG).1.size))
      clear hO hN h2 HV HG hb
      generalize varsC [] (code u) = vs at *
      generalize freeC (ts.take j) = m0 at *
      go_wp2_with fail
      go_loopw [4, 27] (fun n i wr2 => ∃ k : Nat, k ≤ vs.length ∧ i = .int .i64 k ∧ n = .int .i64 (bfold m0 (vs.take k)) ∧ wr2 = V2) (fun _ i _ => vs.length - (intOf i).toNat)
      case atStart => exact ⟨0, Nat.zero_le _, rfl, rfl, rfl⟩
      case round =>
        obtain ⟨k, hk, rfl, rfl, rfl⟩ := hrel
        by_cases hlt2 : k < vs.length
        · obtain ⟨M, b', off', hM, rfl, e0⟩ := num_at (unhide HN) hlt2
          have hM2 := (unhide HQ) M (List.mem_of_getElem? hM)
          have HB := hide (bfold_take (m := m0) hM)
          have hb2 := bfold_le (l := vs.take k) (m := m0) (a := 1099511627777) hfr.1 hfr.2 (fun N hN => ((unhide HQ) N (List.mem_of_mem_take hN)).2)
          have hk1 : (k : Int) < vs.length := by omega
          clear hM
          generalize bfold m0 (vs.take k) = p at *
          go_wp2_with fail
          go_roundw
          case rel => exact ⟨k + 1, by omega, by go_num, by rw [unhide HB], trivial⟩
          case measure => simp [intOf]; omega
        · have ht : vs.take k = vs := List.take_of_length_le (by omega)
          have hk1 : ¬ (k : Int) < vs.length := by omega
          rw [ht, ← unhide HE]
          clear ht
          go_wp2_with fail
          go_roundw
          case rel => exact ⟨j + 1, by omega, by go_num, rfl, HOJ', unhide HF⟩
          case measure => simp [intOf]; omega
    · exfalso
      have ht : ts.take j = ts := List.take_of_length_le (by omega)
      obtain ⟨u, hu, hq⟩ := (unhide HOK).1
      have := (unhide HOJ) u (by rw [ht]; exact hu)
      rw [hq] at this
      cases this
end Go.Proofs.Ytcdgmjpgmiehcaa

