import Derived.Test.YtcnoipaoljjelaaGreatDoorMcB
/- Which builtins are allowed: machine.Allowed and hornref.Allowed answer the same. (Written by wip/mcgen.py.) -/
namespace Go.Proofs.YtcnoipaoljjelaaGreatDoor
open Go.RowKit Go.Shelf Go.Maps

theorem kind_yes (s : ByteArray) (w : World) (h : kindB s.toList = true) : Calls Tryz.prog 32 #[.string s] w fun e w' => (∃ g bs lb, e = .returned (.func (.func g) bs lb)) ∧ Below w.heap.size w w' :=
  (kind_any s w).mono fun e w' ⟨v, he, hv, hb⟩ => by
    rcases hv with ⟨_, g, bs, lb, rfl⟩ | ⟨h', _⟩
    · exact ⟨⟨g, bs, lb, he⟩, hb⟩
    · rw [h] at h'; cases h'
theorem kind_no (s : ByteArray) (w : World) (h : kindB s.toList = false) : Calls Tryz.prog 32 #[.string s] w fun e w' => e = .returned .nilFunc ∧ Below w.heap.size w w' :=
  (kind_any s w).mono fun e w' ⟨v, he, hv, hb⟩ => by
    rcases hv with ⟨h', _⟩ | ⟨_, rfl⟩
    · rw [h] at h'; cases h'
    · exact ⟨he, hb⟩
theorem kind_nil (g : FuncId) (bs lb : Array Value) (w : World) : (binOp .neq 60 (.func (.func g) bs lb) .nilFunc).run Tryz.prog w = .ok (.bool true) w := by kernel_rfl
theorem kind_nn (w : World) : (binOp .neq 60 .nilFunc .nilFunc).run Tryz.prog w = .ok (.bool false) w := by kernel_rfl
theorem deed_nil (g : FuncId) (bs lb : Array Value) (w : World) : (binOp .neq 41 (.func (.func g) bs lb) .nilFunc).run Tryz.prog w = .ok (.bool true) w := by kernel_rfl
theorem deed_nn (w : World) : (binOp .neq 41 .nilFunc .nilFunc).run Tryz.prog w = .ok (.bool false) w := by kernel_rfl
set_option maxRecDepth 100000 in
set_option maxHeartbeats 2000000 in
theorem one_yes (s : ByteArray) (w : World) (hk : kindB s.toList = true) : Calls Tryz.prog 20 #[.string s] w fun e w' => ∃ v, e = .returned v ∧ FnV v true ∧ Below w.heap.size w w' := by
  have hky := fun W => kind_yes s W hk
  clear hk
  go_enter Tryz.func20, Tryz.ntmps20
  go_wp2_with (first | (go_at_call 32; refine (hky _).mono ?_; rintro e w' ⟨⟨g, bs, lb, rfl⟩, hb1⟩; have hn := kind_nil g bs lb w') | (go_at_call 30; refine (asks_any _ _ _ _).mono ?_; rintro e w' ⟨v, rfl, hv, hb2⟩))
  all_goals go_ret
  all_goals first | exact ⟨_, rfl, .yes rfl, Below.refl _ _⟩ | exact ⟨_, rfl, by assumption, by assumption⟩ | exact ⟨_, rfl, by assumption, Below.trans hb1 (hb2.mono hb1.size)⟩
set_option maxRecDepth 100000 in
set_option maxHeartbeats 2000000 in
theorem one_no (s : ByteArray) (w : World) (hk : kindB s.toList = false) : Calls Tryz.prog 20 #[.string s] w fun e w' => ∃ v, e = .returned v ∧ FnV v (all1 s.toList) ∧ Below w.heap.size w w' := by
  have hky := fun W => kind_no s W hk
  go_enter Tryz.func20, Tryz.ntmps20
  go_wp2_with (first | (go_at_call 32; refine (hky _).mono ?_; rintro e w' ⟨rfl, hb1⟩; have hn := kind_nn w') | (go_at_call 30; refine (asks_any _ _ _ _).mono ?_; rintro e w' ⟨v, rfl, hv, hb2⟩))
  all_goals go_ret
  all_goals clear hky
  all_goals first | exact ⟨_, rfl, .yes (by simp_all [all1]), Below.refl _ _⟩ | exact ⟨_, rfl, (by rw [show all1 s.toList = true from (by simp_all [all1])]; assumption), by assumption⟩ | exact ⟨_, rfl, .no (by simp_all [all1]), by assumption⟩
theorem one_any (s : ByteArray) (w : World) : Calls Tryz.prog 20 #[.string s] w fun e w' => ∃ v, e = .returned v ∧ FnV v (all1 s.toList) ∧ Below w.heap.size w w' := by
  cases hk : kindB s.toList with
  | true => rw [show all1 s.toList = true by simp [all1, hk]]; exact one_yes s w hk
  | false => exact one_no s w hk
set_option maxRecDepth 100000 in
set_option maxHeartbeats 4000000 in
theorem two_any (s : ByteArray) (w : World) : Calls Tryz.prog 21 #[.string s] w fun e w' => ∃ v, e = .returned v ∧ FnV v (all2 s.toList) ∧ Below w.heap.size w w' := by
  go_enter Tryz.func21, Tryz.ntmps21
  go_wp2_with (first | (go_at_call 35; refine (asksTwo_any _ _ _ _).mono ?_; rintro e w' ⟨v, rfl, hv, hb2⟩) | (go_at_call 38; refine (ordered_any _ _ _ _).mono ?_; rintro e w' ⟨v, rfl, hv, hb2⟩) | (go_at_call 44; refine (related_any _ _).mono ?_; rintro e w' ⟨v, rfl, hv, hb2⟩))
  all_goals go_ret
  all_goals first | exact ⟨_, rfl, .yes (by simp_all [all2]), Below.refl _ _⟩ | exact ⟨_, rfl, (by rw [show all2 s.toList = true from (by simp_all [all2])]; assumption), by assumption⟩ | exact ⟨_, rfl, .no (by simp_all [all2]), Below.refl _ _⟩
set_option maxRecDepth 100000 in
set_option maxHeartbeats 2000000 in
theorem find_any (s : ByteArray) (n : Int) (w : World) : Calls Tryz.prog 13 #[.string s, .int .i64 n] w fun e w' => ∃ v, e = .returned v ∧ FnV v (allB s.toList n) ∧ Below w.heap.size w w' := by
  have h0 := fun W => none_any s W
  have h1 := fun W => one_any s W
  have h2 := fun W => two_any s W
  have h3 := fun W => three_any s W
  go_enter Tryz.func13, Tryz.ntmps13
  go_wp2_with (first | (go_at_call 19; refine (h0 _).mono ?_; rintro e w' ⟨v, rfl, hv, hb2⟩) | (go_at_call 20; refine (h1 _).mono ?_; rintro e w' ⟨v, rfl, hv, hb2⟩) | (go_at_call 21; refine (h2 _).mono ?_; rintro e w' ⟨v, rfl, hv, hb2⟩) | (go_at_call 22; refine (h3 _).mono ?_; rintro e w' ⟨v, rfl, hv, hb2⟩))
  all_goals go_ret
  all_goals clear h0 h1 h2 h3
  all_goals first | exact ⟨_, rfl, by simpa [allB] using hv, hb2⟩ | exact ⟨_, rfl, .no (by simp_all [allB]), Below.refl _ _⟩ | (subst_vars; exact ⟨_, rfl, by simpa [allB] using hv, hb2⟩) | exact ⟨_, rfl, (by simp_all [allB]), hb2⟩
set_option maxRecDepth 100000 in
set_option maxHeartbeats 2000000 in
theorem allowed_any (s : ByteArray) (n : Int) (w : World) : Calls Tryz.prog 6 #[.string s, .int .i64 n] w fun e w' => e = .returned (.bool (allB s.toList n)) ∧ Below w.heap.size w w' := by
  have hf := find_any s n w
  generalize allB s.toList n = q at *
  go_enter Tryz.func6, Tryz.ntmps6
  go_wp2_with fail
  refine hf.mono ?_
  rintro e w' ⟨v, rfl, hv, hb⟩
  rcases hv with ⟨rfl, g, bs, lb, rfl⟩ | ⟨rfl, rfl⟩
  · have hn := deed_nil g bs lb w'
    go_wp2_with fail
    go_ret
    exact ⟨rfl, hb⟩
  · have hn := deed_nn w'
    go_wp2_with fail
    go_ret
    exact ⟨rfl, hb⟩
/-- Names that are not allowed. -/
def notN : List ByteArray := [⟨#[116, 114, 117, 101]⟩, ⟨#[102, 97, 105, 108]⟩, ⟨#[33]⟩, ⟨#[44]⟩, ⟨#[59]⟩, ⟨#[45, 62]⟩, ⟨#[92, 43]⟩, ⟨#[99, 97, 108, 108]⟩, ⟨#[99, 97, 116, 99, 104]⟩, ⟨#[102, 105, 110, 100, 97, 108, 108]⟩, ⟨#[98, 101, 116, 119, 101, 101, 110]⟩, ⟨#[97, 115, 115, 101, 114, 116, 122]⟩, ⟨#[97, 115, 115, 101, 114, 116, 97]⟩, ⟨#[114, 101, 116, 114, 97, 99, 116]⟩, ⟨#[58, 45]⟩, ⟨#[45, 45, 62]⟩]
theorem notN_len : notN.length = 16 := by decide +kernel
set_option maxRecDepth 100000 in
set_option maxHeartbeats 2000000 in
theorem rallowed_any (s : ByteArray) (n : Int) (m : Int) (w : World) (hm : w.cell? ⟨splitLay_ren.g 1, 0, none⟩ = some (.int .i64 m)) (hm0 : splitLay_ren.g 1 < w.heap.size) :
    Calls Tryz.prog 7 #[.string s, .int .i64 n] w fun e W' => e = .returned (.bool (!(notN.any fun x => x.toList == s.toList) && resB s.toList n)) ∧ Below w.heap.size w W' := by
  have hb1 : Below w.heap.size w (w.alloc (.cells #[.string ⟨#[116, 114, 117, 101]⟩, .string ⟨#[102, 97, 105, 108]⟩, .string ⟨#[33]⟩, .string ⟨#[44]⟩, .string ⟨#[59]⟩, .string ⟨#[45, 62]⟩, .string ⟨#[92, 43]⟩, .string ⟨#[99, 97, 108, 108]⟩, .string ⟨#[99, 97, 116, 99, 104]⟩, .string ⟨#[102, 105, 110, 100, 97, 108, 108]⟩, .string ⟨#[98, 101, 116, 119, 101, 101, 110]⟩, .string ⟨#[97, 115, 115, 101, 114, 116, 122]⟩, .string ⟨#[97, 115, 115, 101, 114, 116, 97]⟩, .string ⟨#[114, 101, 116, 114, 97, 99, 116]⟩, .string ⟨#[58, 45]⟩, .string ⟨#[45, 45, 62]⟩] 9)) := (Below.refl _ w).alloc (Nat.le_refl _) _
  have hcell : ∀ j x, notN[j]? = some x → (w.alloc (.cells #[.string ⟨#[116, 114, 117, 101]⟩, .string ⟨#[102, 97, 105, 108]⟩, .string ⟨#[33]⟩, .string ⟨#[44]⟩, .string ⟨#[59]⟩, .string ⟨#[45, 62]⟩, .string ⟨#[92, 43]⟩, .string ⟨#[99, 97, 108, 108]⟩, .string ⟨#[99, 97, 116, 99, 104]⟩, .string ⟨#[102, 105, 110, 100, 97, 108, 108]⟩, .string ⟨#[98, 101, 116, 119, 101, 101, 110]⟩, .string ⟨#[97, 115, 115, 101, 114, 116, 122]⟩, .string ⟨#[97, 115, 115, 101, 114, 116, 97]⟩, .string ⟨#[114, 101, 116, 114, 97, 99, 116]⟩, .string ⟨#[58, 45]⟩, .string ⟨#[45, 45, 62]⟩] 9)).cell? ⟨w.heap.size, j, none⟩ = some (.string x) := fun j x h => names_cell notN h
  have hres := rres_any s n m (w.alloc (.cells #[.string ⟨#[116, 114, 117, 101]⟩, .string ⟨#[102, 97, 105, 108]⟩, .string ⟨#[33]⟩, .string ⟨#[44]⟩, .string ⟨#[59]⟩, .string ⟨#[45, 62]⟩, .string ⟨#[92, 43]⟩, .string ⟨#[99, 97, 108, 108]⟩, .string ⟨#[99, 97, 116, 99, 104]⟩, .string ⟨#[102, 105, 110, 100, 97, 108, 108]⟩, .string ⟨#[98, 101, 116, 119, 101, 101, 110]⟩, .string ⟨#[97, 115, 115, 101, 114, 116, 122]⟩, .string ⟨#[97, 115, 115, 101, 114, 116, 97]⟩, .string ⟨#[114, 101, 116, 114, 97, 99, 116]⟩, .string ⟨#[58, 45]⟩, .string ⟨#[45, 45, 62]⟩] 9)) ((hb1.cell (p := ⟨splitLay_ren.g 1, 0, none⟩) hm0).trans hm) (by have := hb1.size; omega)
  have HLN : Hid _ := notN_len
  generalize hL : notN = L at *
  clear hL
  have HC : Hid _ := hcell
  have HR : Hid _ := hres
  have HB : Hid _ := hb1
  clear hcell hres hb1 hm hm0
  go_enter Tryz.func7, Tryz.ntmps7
  go_wp2_with fail
  obtain ⟨W1, hW1⟩ : ∃ W1, w.alloc (.cells #[.string ⟨#[116, 114, 117, 101]⟩, .string ⟨#[102, 97, 105, 108]⟩, .string ⟨#[33]⟩, .string ⟨#[44]⟩, .string ⟨#[59]⟩, .string ⟨#[45, 62]⟩, .string ⟨#[92, 43]⟩, .string ⟨#[99, 97, 108, 108]⟩, .string ⟨#[99, 97, 116, 99, 104]⟩, .string ⟨#[102, 105, 110, 100, 97, 108, 108]⟩, .string ⟨#[98, 101, 116, 119, 101, 101, 110]⟩, .string ⟨#[97, 115, 115, 101, 114, 116, 122]⟩, .string ⟨#[97, 115, 115, 101, 114, 116, 97]⟩, .string ⟨#[114, 101, 116, 114, 97, 99, 116]⟩, .string ⟨#[58, 45]⟩, .string ⟨#[45, 45, 62]⟩] 9) = W1 := ⟨_, rfl⟩
  rw [hW1] at HC HR HB ⊢
  clear hW1
  go_loopw [6] (fun i wr => ∃ j : Nat, j ≤ 16 ∧ i = .int .i64 j ∧ wr = W1 ∧ Hid (∀ i x, L[i]? = some x → i < j → (x.toList == s.toList) = false)) (fun i _ => 16 - (intOf i).toNat)
  case atStart => exact ⟨0, Nat.zero_le _, rfl, rfl, fun i x _ h => by omega⟩
  case round =>
    obtain ⟨j, hj, rfl, rfl, HNO⟩ := hrel
    by_cases hlt : j < 16
    · obtain ⟨x, hx⟩ : ∃ x, L[j]? = some x := ⟨L[j]'(by have := HLN.out; omega), List.getElem?_eq_getElem (by have := HLN.out; omega)⟩
      have cx := HC.out j x hx
      have HX : Hid _ := hx
      clear hx
      have hj1 : (j : Int) < 16 := by omega
      cases he : (x.toList == s.toList) with
      | true =>
        have HE : Hid ((!(L.any fun x => x.toList == s.toList) && resB s.toList n) = false) := by
          show _ = _
          rw [List.any_eq_true.2 ⟨x, List.mem_of_getElem? HX.out, he⟩]
          rfl
        go_wp2_with fail
        all_goals go_ret
        all_goals exact ⟨by rw [HE.out]; rfl, HB.out⟩
      | false =>
        have HE : Hid _ := he
        go_wp2_with fail
        refine ⟨⟨j + 1, by omega, by go_num, by first | rfl | trivial, fun i y hy hi => ?_⟩, by simp [intOf]; omega⟩
        by_cases hij : i < j
        · exact HNO.out i y hy hij
        · obtain rfl : i = j := by omega
          have := HX.out
          rw [this] at hy
          cases hy
          exact HE.out
    · have HE : Hid ((L.any fun x => x.toList == s.toList) = false) := by
        show L.any _ = false
        rw [List.any_eq_false]
        intro x hx
        obtain ⟨i, hi⟩ := List.getElem?_of_mem hx
        have := HNO.out i x hi (by have := (List.getElem?_eq_some_iff.1 hi).1; have := HLN.out; omega)
        simp [this]
      have hj1 : ¬ (j : Int) < 16 := by omega
      have hres : Calls Tryz.prog 12 #[.string s, .int .i64 n] wr fun e W' => e = .returned (.bool (resB s.toList n)) ∧ Below wr.heap.size wr W' := HR.out
      go_wp2_with fail
      refine hres.mono ?_
      rintro e W2 ⟨rfl, hb2⟩
      go_wp2_with fail
      all_goals go_ret
      all_goals exact ⟨by rw [HE.out]; rfl, HB.out.trans (hb2.mono HB.out.size)⟩
theorem mem_beq {L : List ByteArray} {l : List UInt8} : (L.any fun x => x.toList == l) = true ↔ l ∈ L.map ByteArray.toList := by
  constructor
  · intro h
    obtain ⟨x, hx, e⟩ := List.any_eq_true.1 h
    exact List.mem_map.2 ⟨x, hx, eq_of_beq e⟩
  · intro h
    obtain ⟨x, hx, e⟩ := List.mem_map.1 h
    exact List.any_eq_true.2 ⟨x, hx, beq_iff_eq.2 e⟩
def notL : List (List UInt8) := [[116, 114, 117, 101], [102, 97, 105, 108], [33], [44], [59], [45, 62], [92, 43], [99, 97, 108, 108], [99, 97, 116, 99, 104], [102, 105, 110, 100, 97, 108, 108], [98, 101, 116, 119, 101, 101, 110], [97, 115, 115, 101, 114, 116, 122], [97, 115, 115, 101, 114, 116, 97], [114, 101, 116, 114, 97, 99, 116], [58, 45], [45, 45, 62]]
theorem notL_eq : notN.map ByteArray.toList = notL := by decide +kernel
def resL0' : List (List UInt8) := [[116, 114, 117, 101], [102, 97, 105, 108], [33], [110, 108]]
theorem resL0_eq : resN0.map ByteArray.toList = resL0' := by decide +kernel
def alL0 : List (List UInt8) := [[110, 108]]
theorem alL0_iff (l : List UInt8) : all0 l = true ↔ l ∈ alL0 := by simp [all0, alL0]
theorem alL0_res : ∀ l ∈ resL0', l ∈ alL0 ↔ l ∉ notL := by decide +kernel
theorem alL0_sub : ∀ l ∈ alL0, l ∈ resL0' ∧ l ≠ [99, 97, 108, 108] := by decide +kernel
def resL1' : List (List UInt8) := [[92, 43], [116, 104, 114, 111, 119], [118, 97, 114], [110, 111, 110, 118, 97, 114], [97, 116, 111, 109], [105, 110, 116, 101, 103, 101, 114], [97, 116, 111, 109, 105, 99], [99, 111, 109, 112, 111, 117, 110, 100], [99, 97, 108, 108, 97, 98, 108, 101], [103, 114, 111, 117, 110, 100], [97, 115, 115, 101, 114, 116, 122], [97, 115, 115, 101, 114, 116, 97], [114, 101, 116, 114, 97, 99, 116], [112, 114, 105, 110, 116], [58, 45]]
theorem resL1_eq : resN1.map ByteArray.toList = resL1' := by decide +kernel
def alL1 : List (List UInt8) := [[112, 114, 105, 110, 116], [116, 104, 114, 111, 119], [103, 114, 111, 117, 110, 100], [118, 97, 114], [110, 111, 110, 118, 97, 114], [97, 116, 111, 109], [105, 110, 116, 101, 103, 101, 114], [97, 116, 111, 109, 105, 99], [99, 111, 109, 112, 111, 117, 110, 100], [99, 97, 108, 108, 97, 98, 108, 101]]
theorem alL1_iff (l : List UInt8) : all1 l = true ↔ l ∈ alL1 := by simp [all1, alL1, kindB]
theorem alL1_res : ∀ l ∈ resL1', l ∈ alL1 ↔ l ∉ notL := by decide +kernel
theorem alL1_sub : ∀ l ∈ alL1, l ∈ resL1' ∧ l ≠ [99, 97, 108, 108] := by decide +kernel
def resL2' : List (List UInt8) := [[44], [59], [45, 62], [61], [92, 61], [61, 61], [92, 61, 61], [64, 60], [64, 62], [64, 61, 60], [64, 62, 61], [61, 46, 46], [99, 111, 112, 121, 95, 116, 101, 114, 109], [105, 115], [61, 58, 61], [61, 92, 61], [60], [62], [61, 60], [62, 61], [97, 116, 111, 109, 95, 108, 101, 110, 103, 116, 104], [97, 116, 111, 109, 95, 99, 104, 97, 114, 115], [108, 101, 110, 103, 116, 104], [115, 111, 114, 116], [58, 45], [45, 45, 62]]
theorem resL2_eq : resN2.map ByteArray.toList = resL2' := by decide +kernel
def alL2 : List (List UInt8) := [[61], [92, 61], [61, 61], [92, 61, 61], [64, 60], [64, 62], [64, 61, 60], [64, 62, 61], [105, 115], [61, 58, 61], [61, 92, 61], [60], [62], [61, 60], [62, 61], [61, 46, 46], [99, 111, 112, 121, 95, 116, 101, 114, 109], [97, 116, 111, 109, 95, 108, 101, 110, 103, 116, 104], [97, 116, 111, 109, 95, 99, 104, 97, 114, 115], [108, 101, 110, 103, 116, 104], [115, 111, 114, 116]]
theorem alL2_iff (l : List UInt8) : all2 l = true ↔ l ∈ alL2 := by simp [all2, alL2]
theorem alL2_res : ∀ l ∈ resL2', l ∈ alL2 ↔ l ∉ notL := by decide +kernel
theorem alL2_sub : ∀ l ∈ alL2, l ∈ resL2' ∧ l ≠ [99, 97, 108, 108] := by decide +kernel
def resL3' : List (List UInt8) := [[99, 97, 116, 99, 104], [102, 105, 110, 100, 97, 108, 108], [99, 111, 109, 112, 97, 114, 101], [102, 117, 110, 99, 116, 111, 114], [97, 114, 103], [98, 101, 116, 119, 101, 101, 110]]
theorem resL3_eq : resN3.map ByteArray.toList = resL3' := by decide +kernel
def alL3 : List (List UInt8) := [[99, 111, 109, 112, 97, 114, 101], [102, 117, 110, 99, 116, 111, 114], [97, 114, 103]]
theorem alL3_iff (l : List UInt8) : all3 l = true ↔ l ∈ alL3 := by simp [all3, alL3]
theorem alL3_res : ∀ l ∈ resL3', l ∈ alL3 ↔ l ∉ notL := by decide +kernel
theorem alL3_sub : ∀ l ∈ alL3, l ∈ resL3' ∧ l ≠ [99, 97, 108, 108] := by decide +kernel
theorem all_same (l : List UInt8) (n : Int) : (!(notN.any fun x => x.toList == l) && resB l n) = allB l n := by
  have key : ∀ (R : List ByteArray) (R' A : List (List UInt8)) (b : Bool), R.map ByteArray.toList = R' → (b = true ↔ l ∈ A) → (∀ l ∈ R', l ∈ A ↔ l ∉ notL) → (∀ l ∈ A, l ∈ R' ∧ l ≠ [99, 97, 108, 108]) → (l == [99, 97, 108, 108]) = false → (!(notN.any fun x => x.toList == l) && R.any fun x => x.toList == l) = b := by
    intro R R' A b h1 h2 h3 h4 _
    rw [Bool.eq_iff_iff, h2, Bool.and_eq_true, Bool.not_eq_true', Bool.eq_false_iff, ne_eq, mem_beq, mem_beq, h1, notL_eq]
    constructor
    · rintro ⟨k1, k2⟩; exact (h3 l k2).2 k1
    · intro k; exact ⟨(h3 l (h4 l k).1).1 k, (h4 l k).1⟩
  cases hc : (l == [99, 97, 108, 108]) with
  | true =>
    have hl : l = [99, 97, 108, 108] := by simpa using hc
    have hn : (notN.any fun x => x.toList == l) = true := by rw [mem_beq, notL_eq, hl]; decide
    rw [hn]
    have h0 : ∀ (A R' : List (List UInt8)) (b : Bool), (b = true ↔ l ∈ A) → (∀ l ∈ A, l ∈ R' ∧ l ≠ [99, 97, 108, 108]) → b = false := fun A R' b h1 h2 => by
      cases b with
      | false => rfl
      | true => exact ((h2 l (h1.1 rfl)).2 hl).elim
    unfold allB
    split
    · exact (h0 _ _ _ (alL0_iff l) alL0_sub).symm
    · split
      · exact (h0 _ _ _ (alL1_iff l) alL1_sub).symm
      · split
        · exact (h0 _ _ _ (alL2_iff l) alL2_sub).symm
        · split
          · exact (h0 _ _ _ (alL3_iff l) alL3_sub).symm
          · rfl
  | false =>
    unfold allB resB
    rw [hc]
    simp only [Bool.false_eq_true, if_false]
    split
    · exact key _ _ _ _ resL0_eq (alL0_iff l) alL0_res alL0_sub hc
    · split
      · exact key _ _ _ _ resL1_eq (alL1_iff l) alL1_res alL1_sub hc
      · split
        · exact key _ _ _ _ resL2_eq (alL2_iff l) alL2_res alL2_sub hc
        · split
          · exact key _ _ _ _ resL3_eq (alL3_iff l) alL3_res alL3_sub hc
          · simp
end Go.Proofs.YtcnoipaoljjelaaGreatDoor

