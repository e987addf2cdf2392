import Derived.Test.YtodolgpcnleahaaDoorOpE
/- The contract of hornref.Ops. (Written by wip/opfgen.py.) -/
namespace Go.Proofs.YtodolgpcnleahaaDoor
open Go.RowKit Go.Shelf Go.Maps

theorem drewN_below {n : Nat} {A B : World} (h : Below n A B) (k : Nat) : Below n A (B.drewN k) := ⟨h.os, h.tape, h.output, h.size, h.block⟩
/-- Whether what came so far is not allowed. -/
def BadB (b : Bool) (len : Nat) (l : List OV) : Prop := b = true ↔ ¬ (len ≤ 200 ∧ Good l)
theorem bad_next {b : Bool} {len j : Nat} {l : List OV} {x : OV} (hu : l[j]? = some x) (hb : BadB b len (l.take j)) (h : b = true ∨ ¬ (okA x ∧ okS x)) : BadB true len (l.take (j + 1)) := by
  unfold BadB at *
  rw [take_snoc hu, good_snoc]
  refine ⟨fun _ hg => ?_, fun _ => rfl⟩
  rcases h with h | h
  · exact hb.1 h ⟨hg.1, hg.2.1⟩
  · exact h ⟨hg.2.2.1, hg.2.2.2.1⟩
/-- Whether one of those is like x. -/
def LikeB (b : Bool) (l : List OV) (x : OV) : Prop := b = true ↔ ¬ ∀ y ∈ l, ¬ like y x
theorem good_next {len j : Nat} {l : List OV} {x : OV} {b : Bool} (hu : l[j]? = some x) (hb : BadB false len (l.take j)) (h : okA x ∧ okS x) (hk : LikeB b (l.take j) x) : BadB b len (l.take (j + 1)) := by
  unfold BadB at *
  unfold LikeB at hk
  rw [take_snoc hu, good_snoc, hk]
  have hg : len ≤ 200 ∧ Good (l.take j) := Classical.byContradiction fun h => by have := hb.2 h; cases this
  exact ⟨fun h1 h2 => h1 h2.2.2.2.2, fun h1 h2 => h1 ⟨hg.1, hg.2, h.1, h.2, h2⟩⟩
theorem like_next {b : Bool} {k : Nat} {l : List OV} {x y : OV} (hu : l[k]? = some y) (hb : LikeB b (l.take k) x) {b' : Bool} (h : b' = true ↔ (b = true ∨ like y x)) : LikeB b' (l.take (k + 1)) x := by
  unfold LikeB at *
  rw [h, hb, take_snoc hu]
  constructor
  · rintro (h1 | h1) h2
    · exact h1 fun z hz => h2 z (List.mem_append_left _ hz)
    · exact h2 y (by simp) h1
  · intro h1
    by_cases h2 : like y x
    · exact .inr h2
    · refine .inl fun h3 => h1 fun z hz => ?_
      rcases List.mem_append.1 hz with hz | hz
      · exact h3 z hz
      · simp at hz; subst hz; exact h2
theorem take_get {α : Type} {l : List α} {j k : Nat} {x : α} (h : (l.take j)[k]? = some x) : l[k]? = some x := by
  rw [List.getElem?_take] at h
  split at h
  · exact h
  · cases h

set_option maxRecDepth 100000 in
set_option maxHeartbeats 8000000 in
theorem rops_any (l : List OV) (a : Option Addr) (len cap : Nat) (w : World) (hl : IsO w a len l) :
    Calls Tryd.prog 7 #[.slice a len cap] w fun e W' => Below w.heap.size w W' ∧ e = .returned (.int .i64 (opsE l)) := by
  have h1 := hl.1
  have h2 := hl.2.1
  have hl1 : len ≤ l.length := by omega
  have hl2 : l.length ≤ len := by omega
  clear h1
  have HL := hd hl
  clear hl
  go_enter Tryd.func7, Tryd.ntmps7
  go_wp2_with fail
  go_loopw [3, 4] (fun v i wr => ∃ (j : Nat) (b : Bool), j ≤ len ∧ v = .bool b ∧ i = .int .i64 j ∧ Below w.heap.size w wr ∧ BadB b len (l.take j)) (fun _ i _ => len - (intOf i).toNat)
  case atStart => exact ⟨0, _, Nat.zero_le _, rfl, rfl, Below.refl _ _, by simp [BadB, Good]; omega⟩
  case round =>
    obtain ⟨j, b, hj, rfl, rfl, hb, hbad⟩ := hrel
    by_cases hlt : j < len
    · obtain ⟨s, p, t, bk, off, hu, rfl, hbk, c0, c1, c2⟩ := op_at (uh HL) hb hlt
      have hj1 : (j : Int) < len := by omega
      have hjb : (j : Int) ≤ 9223372036854775807 := by omega
      have hbx : Below w.heap.size w (wr.alloc (.cells #[.string s, .int .i64 p, .int .i64 t] 27)) := hb.alloc hb.size _
      have HU := hd hu
      have HBAD := hd hbad
      clear hu hbad
      cases b with
      | true =>
        have hnext : BadB true len (l.take (j + 1)) := bad_next (uh HU) (uh HBAD) (.inl rfl)
        have HN := hd hnext
        clear hnext
        go_wp2_with fail
        go_loopw [3, 6] (fun v i wq => ∃ k : Nat, k ≤ j ∧ v = .bool true ∧ i = .int .i64 k ∧ Below w.heap.size w wq) (fun _ i _ => j - (intOf i).toNat)
        case atStart => exact ⟨0, Nat.zero_le _, rfl, rfl, hbx⟩
        case round =>
          obtain ⟨k, hk, rfl, rfl, hbq⟩ := hrel
          by_cases hlk : k < j
          · have hk1 : (k : Int) < j := by omega
            go_wp2_with fail
            go_quiet (fail)
            go_wp2_with fail
            go_roundw
            case rel => exact ⟨k + 1, by omega, rfl, by go_num, drewN_below hbq _⟩
            case measure => simp [intOf]; omega
          · have hk1 : ¬ (k : Int) < j := by omega
            go_wp2_with fail
            go_roundw
            case rel => exact ⟨j + 1, true, by omega, rfl, by go_num, hbq, uh HN⟩
            case measure => simp [intOf]; omega
      | false =>
        cases g1 : decide ((100 : Int) < s.size) with
        | true =>
          have hnext : BadB true len (l.take (j + 1)) := bad_next (uh HU) (uh HBAD) (.inr fun h => by have h := h.1; simp [okA] at h; simp at g1; omega)
          have HN := hd hnext
          clear hnext
          go_wp2_with fail
          go_loopw [3, 6] (fun v i wq => ∃ k : Nat, k ≤ j ∧ v = .bool true ∧ i = .int .i64 k ∧ Below w.heap.size w wq) (fun _ i _ => j - (intOf i).toNat)
          case atStart => exact ⟨0, Nat.zero_le _, rfl, rfl, hbx⟩
          case round =>
            obtain ⟨k, hk, rfl, rfl, hbq⟩ := hrel
            by_cases hlk : k < j
            · have hk1 : (k : Int) < j := by omega
              go_wp2_with fail
              go_quiet (fail)
              go_wp2_with fail
              go_roundw
              case rel => exact ⟨k + 1, by omega, rfl, by go_num, drewN_below hbq _⟩
              case measure => simp [intOf]; omega
            · have hk1 : ¬ (k : Int) < j := by omega
              go_wp2_with fail
              go_roundw
              case rel => exact ⟨j + 1, true, by omega, rfl, by go_num, hbq, uh HN⟩
              case measure => simp [intOf]; omega
        | false =>
          cases g2 : decide (p < 1) with
          | true =>
            have hnext : BadB true len (l.take (j + 1)) := bad_next (uh HU) (uh HBAD) (.inr fun h => by have h := h.1; simp [okA] at h; simp at g2; omega)
            have HN := hd hnext
            clear hnext
            go_wp2_with fail
            go_loopw [3, 6] (fun v i wq => ∃ k : Nat, k ≤ j ∧ v = .bool true ∧ i = .int .i64 k ∧ Below w.heap.size w wq) (fun _ i _ => j - (intOf i).toNat)
            case atStart => exact ⟨0, Nat.zero_le _, rfl, rfl, hbx⟩
            case round =>
              obtain ⟨k, hk, rfl, rfl, hbq⟩ := hrel
              by_cases hlk : k < j
              · have hk1 : (k : Int) < j := by omega
                go_wp2_with fail
                go_quiet (fail)
                go_wp2_with fail
                go_roundw
                case rel => exact ⟨k + 1, by omega, rfl, by go_num, drewN_below hbq _⟩
                case measure => simp [intOf]; omega
              · have hk1 : ¬ (k : Int) < j := by omega
                go_wp2_with fail
                go_roundw
                case rel => exact ⟨j + 1, true, by omega, rfl, by go_num, hbq, uh HN⟩
                case measure => simp [intOf]; omega
          | false =>
            cases g3 : decide (1200 < p) with
            | true =>
              have hnext : BadB true len (l.take (j + 1)) := bad_next (uh HU) (uh HBAD) (.inr fun h => by have h := h.1; simp [okA] at h; simp at g3; omega)
              have HN := hd hnext
              clear hnext
              go_wp2_with fail
              go_loopw [3, 6] (fun v i wq => ∃ k : Nat, k ≤ j ∧ v = .bool true ∧ i = .int .i64 k ∧ Below w.heap.size w wq) (fun _ i _ => j - (intOf i).toNat)
              case atStart => exact ⟨0, Nat.zero_le _, rfl, rfl, hbx⟩
              case round =>
                obtain ⟨k, hk, rfl, rfl, hbq⟩ := hrel
                by_cases hlk : k < j
                · have hk1 : (k : Int) < j := by omega
                  go_wp2_with fail
                  go_quiet (fail)
                  go_wp2_with fail
                  go_roundw
                  case rel => exact ⟨k + 1, by omega, rfl, by go_num, drewN_below hbq _⟩
                  case measure => simp [intOf]; omega
                · have hk1 : ¬ (k : Int) < j := by omega
                  go_wp2_with fail
                  go_roundw
                  case rel => exact ⟨j + 1, true, by omega, rfl, by go_num, hbq, uh HN⟩
                  case measure => simp [intOf]; omega
            | false =>
              cases g4 : decide (t < 1) with
              | true =>
                have hnext : BadB true len (l.take (j + 1)) := bad_next (uh HU) (uh HBAD) (.inr fun h => by have h := h.1; simp [okA] at h; simp at g4; omega)
                have HN := hd hnext
                clear hnext
                go_wp2_with fail
                go_loopw [3, 6] (fun v i wq => ∃ k : Nat, k ≤ j ∧ v = .bool true ∧ i = .int .i64 k ∧ Below w.heap.size w wq) (fun _ i _ => j - (intOf i).toNat)
                case atStart => exact ⟨0, Nat.zero_le _, rfl, rfl, hbx⟩
                case round =>
                  obtain ⟨k, hk, rfl, rfl, hbq⟩ := hrel
                  by_cases hlk : k < j
                  · have hk1 : (k : Int) < j := by omega
                    go_wp2_with fail
                    go_quiet (fail)
                    go_wp2_with fail
                    go_roundw
                    case rel => exact ⟨k + 1, by omega, rfl, by go_num, drewN_below hbq _⟩
                    case measure => simp [intOf]; omega
                  · have hk1 : ¬ (k : Int) < j := by omega
                    go_wp2_with fail
                    go_roundw
                    case rel => exact ⟨j + 1, true, by omega, rfl, by go_num, hbq, uh HN⟩
                    case measure => simp [intOf]; omega
              | false =>
                cases g5 : decide (5 < t) with
                | true =>
                  have hnext : BadB true len (l.take (j + 1)) := bad_next (uh HU) (uh HBAD) (.inr fun h => by have h := h.1; simp [okA] at h; simp at g5; omega)
                  have HN := hd hnext
                  clear hnext
                  go_wp2_with fail
                  go_loopw [3, 6] (fun v i wq => ∃ k : Nat, k ≤ j ∧ v = .bool true ∧ i = .int .i64 k ∧ Below w.heap.size w wq) (fun _ i _ => j - (intOf i).toNat)
                  case atStart => exact ⟨0, Nat.zero_le _, rfl, rfl, hbx⟩
                  case round =>
                    obtain ⟨k, hk, rfl, rfl, hbq⟩ := hrel
                    by_cases hlk : k < j
                    · have hk1 : (k : Int) < j := by omega
                      go_wp2_with fail
                      go_quiet (fail)
                      go_wp2_with fail
                      go_roundw
                      case rel => exact ⟨k + 1, by omega, rfl, by go_num, drewN_below hbq _⟩
                      case measure => simp [intOf]; omega
                    · have hk1 : ¬ (k : Int) < j := by omega
                      go_wp2_with fail
                      go_roundw
                      case rel => exact ⟨j + 1, true, by omega, rfl, by go_num, hbq, uh HN⟩
                      case measure => simp [intOf]; omega
                | false =>
                  cases n1 : (s.toList == [44]) with
                  | true =>
                    have hnext : BadB true len (l.take (j + 1)) := bad_next (uh HU) (uh HBAD) (.inr fun h => by have h := h.2; simp [okS] at h; simp at n1; simp_all)
                    have HN := hd hnext
                    clear hnext
                    go_wp2_with fail
                    go_loopw [3, 6] (fun v i wq => ∃ k : Nat, k ≤ j ∧ v = .bool true ∧ i = .int .i64 k ∧ Below w.heap.size w wq) (fun _ i _ => j - (intOf i).toNat)
                    case atStart => exact ⟨0, Nat.zero_le _, rfl, rfl, hbx⟩
                    case round =>
                      obtain ⟨k, hk, rfl, rfl, hbq⟩ := hrel
                      by_cases hlk : k < j
                      · have hk1 : (k : Int) < j := by omega
                        go_wp2_with fail
                        go_quiet (fail)
                        go_wp2_with fail
                        go_roundw
                        case rel => exact ⟨k + 1, by omega, rfl, by go_num, drewN_below hbq _⟩
                        case measure => simp [intOf]; omega
                      · have hk1 : ¬ (k : Int) < j := by omega
                        go_wp2_with fail
                        go_roundw
                        case rel => exact ⟨j + 1, true, by omega, rfl, by go_num, hbq, uh HN⟩
                        case measure => simp [intOf]; omega
                  | false =>
                    cases n2 : (s.toList == [124]) with
                    | true =>
                      have hnext : BadB true len (l.take (j + 1)) := bad_next (uh HU) (uh HBAD) (.inr fun h => by have h := h.2; simp [okS] at h; simp at n2; simp_all)
                      have HN := hd hnext
                      clear hnext
                      go_wp2_with fail
                      go_loopw [3, 6] (fun v i wq => ∃ k : Nat, k ≤ j ∧ v = .bool true ∧ i = .int .i64 k ∧ Below w.heap.size w wq) (fun _ i _ => j - (intOf i).toNat)
                      case atStart => exact ⟨0, Nat.zero_le _, rfl, rfl, hbx⟩
                      case round =>
                        obtain ⟨k, hk, rfl, rfl, hbq⟩ := hrel
                        by_cases hlk : k < j
                        · have hk1 : (k : Int) < j := by omega
                          go_wp2_with fail
                          go_quiet (fail)
                          go_wp2_with fail
                          go_roundw
                          case rel => exact ⟨k + 1, by omega, rfl, by go_num, drewN_below hbq _⟩
                          case measure => simp [intOf]; omega
                        · have hk1 : ¬ (k : Int) < j := by omega
                          go_wp2_with fail
                          go_roundw
                          case rel => exact ⟨j + 1, true, by omega, rfl, by go_num, hbq, uh HN⟩
                          case measure => simp [intOf]; omega
                    | false =>
                      cases n3 : (s.toList == [91, 93]) with
                      | true =>
                        have hnext : BadB true len (l.take (j + 1)) := bad_next (uh HU) (uh HBAD) (.inr fun h => by have h := h.2; simp [okS] at h; simp at n3; simp_all)
                        have HN := hd hnext
                        clear hnext
                        go_wp2_with fail
                        go_loopw [3, 6] (fun v i wq => ∃ k : Nat, k ≤ j ∧ v = .bool true ∧ i = .int .i64 k ∧ Below w.heap.size w wq) (fun _ i _ => j - (intOf i).toNat)
                        case atStart => exact ⟨0, Nat.zero_le _, rfl, rfl, hbx⟩
                        case round =>
                          obtain ⟨k, hk, rfl, rfl, hbq⟩ := hrel
                          by_cases hlk : k < j
                          · have hk1 : (k : Int) < j := by omega
                            go_wp2_with fail
                            go_quiet (fail)
                            go_wp2_with fail
                            go_roundw
                            case rel => exact ⟨k + 1, by omega, rfl, by go_num, drewN_below hbq _⟩
                            case measure => simp [intOf]; omega
                          · have hk1 : ¬ (k : Int) < j := by omega
                            go_wp2_with fail
                            go_roundw
                            case rel => exact ⟨j + 1, true, by omega, rfl, by go_num, hbq, uh HN⟩
                            case measure => simp [intOf]; omega
                      | false =>
                        cases n4 : (s.toList == [123, 125]) with
                        | true =>
                          have hnext : BadB true len (l.take (j + 1)) := bad_next (uh HU) (uh HBAD) (.inr fun h => by have h := h.2; simp [okS] at h; simp at n4; simp_all)
                          have HN := hd hnext
                          clear hnext
                          go_wp2_with fail
                          go_loopw [3, 6] (fun v i wq => ∃ k : Nat, k ≤ j ∧ v = .bool true ∧ i = .int .i64 k ∧ Below w.heap.size w wq) (fun _ i _ => j - (intOf i).toNat)
                          case atStart => exact ⟨0, Nat.zero_le _, rfl, rfl, hbx⟩
                          case round =>
                            obtain ⟨k, hk, rfl, rfl, hbq⟩ := hrel
                            by_cases hlk : k < j
                            · have hk1 : (k : Int) < j := by omega
                              go_wp2_with fail
                              go_quiet (fail)
                              go_wp2_with fail
                              go_roundw
                              case rel => exact ⟨k + 1, by omega, rfl, by go_num, drewN_below hbq _⟩
                              case measure => simp [intOf]; omega
                            · have hk1 : ¬ (k : Int) < j := by omega
                              go_wp2_with fail
                              go_roundw
                              case rel => exact ⟨j + 1, true, by omega, rfl, by go_num, hbq, uh HN⟩
                              case measure => simp [intOf]; omega
                        | false =>
                          have hok : okA ⟨s, p, t⟩ ∧ okS ⟨s, p, t⟩ := by simp [okA, okS] at *; exact ⟨⟨g1, g2, g3, g4, g5⟩, n1, n2, n3, n4⟩
                          have HOK := hd hok
                          clear hok
                          have hz0 : (wr.alloc (.cells #[.string s, .int .i64 p, .int .i64 t] 27)).cell? ⟨wr.heap.size, 0, none⟩ = some (.string s) := by simp
                          have hz2 : (wr.alloc (.cells #[.string s, .int .i64 p, .int .i64 t] 27)).cell? ⟨wr.heap.size, 2, none⟩ = some (.int .i64 t) := by simp
                          have HZ0 := hd hz0
                          have HZ2 := hd hz2
                          clear hz0 hz2
                          go_wp2_with fail
                          go_loopw [3, 6] (fun v i wq => ∃ (k : Nat) (b : Bool), k ≤ j ∧ v = .bool b ∧ i = .int .i64 k ∧ Below w.heap.size w wq ∧ wq.cell? ⟨wr.heap.size, 0, none⟩ = some (.string s) ∧ wq.cell? ⟨wr.heap.size, 2, none⟩ = some (.int .i64 t) ∧ LikeB b (l.take k) ⟨s, p, t⟩) (fun _ i _ => j - (intOf i).toNat)
                          case atStart => exact ⟨0, false, Nat.zero_le _, rfl, rfl, hbx, uh HZ0, uh HZ2, by simp [LikeB]⟩
                          case round =>
                            obtain ⟨k, b, hk, rfl, rfl, hbq, e0, e2, hbb⟩ := hrel
                            clear g1 g2 g3 g4 g5 n1 n2 n3 n4 c0 c1 c2
                            have HBB := hd hbb
                            clear hbb
                            by_cases hlk : k < j
                            · have hk1 : (k : Int) < j := by omega
                              have hk2 : (k : Int) < len := by omega
                              obtain ⟨s', p', t', bk', off', hu', ha', hbk', d0, d1, d2⟩ := op_at (uh HL) hbq (j := k) (by omega)
                              simp at ha'
                              obtain ⟨rfl, rfl⟩ := ha'
                              have HU' := hd hu'
                              clear hu' d1
                              cases b with
                              | true =>
                                go_wp2_with fail
                                go_quiet (fail)
                                go_wp2_with fail
                                go_roundw
                                case rel => exact ⟨k + 1, true, by omega, rfl, by go_num, drewN_below hbq _, e0, e2, like_next (uh HU') (uh HBB) (by simp)⟩
                                case measure => simp [intOf]; omega
                              | false =>
                                cases hnm : (s'.toList == s.toList) with
                                | false =>
                                  have hnl : ¬ like ⟨s', p', t'⟩ ⟨s, p, t⟩ := fun h => by have := h.1; simp at hnm; exact hnm this
                                  have HNL := hd hnl
                                  clear hnl
                                  go_wp2_with fail
                                  go_quiet (fail)
                                  go_wp2_with fail
                                  go_roundw
                                  case rel => exact ⟨k + 1, false, by omega, rfl, by go_num, drewN_below hbq _, e0, e2, like_next (uh HU') (uh HBB) (by simp [uh HNL])⟩
                                  case measure => simp [intOf]; omega
                                | true =>
                                  cases ht1 : decide (t' ≤ 3) with
                                  | true =>
                                    cases ht2 : decide (t ≤ 3) with
                                    | true =>
                                      have hli : like ⟨s', p', t'⟩ ⟨s, p, t⟩ := ⟨by simpa using hnm, by simp at ht1 ht2; simp [ht1, ht2]⟩
                                      have HLI := hd hli
                                      clear hli
                                      go_wp2_with fail
                                      go_quiet (fail)
                                      go_wp2_with fail
                                      go_roundw
                                      case rel => exact ⟨k + 1, true, by omega, rfl, by go_num, drewN_below hbq _, e0, e2, like_next (uh HU') (uh HBB) (by simp [uh HLI])⟩
                                      case measure => simp [intOf]; omega
                                    | false =>
                                      have hnl : ¬ like ⟨s', p', t'⟩ ⟨s, p, t⟩ := fun h => by have := h.2; simp at ht1 ht2 this; omega
                                      have HNL := hd hnl
                                      clear hnl
                                      go_wp2_with fail
                                      go_quiet (fail)
                                      go_wp2_with fail
                                      go_roundw
                                      case rel => exact ⟨k + 1, false, by omega, rfl, by go_num, drewN_below hbq _, e0, e2, like_next (uh HU') (uh HBB) (by simp [uh HNL])⟩
                                      case measure => simp [intOf]; omega
                                  | false =>
                                    cases ht2 : decide (t ≤ 3) with
                                    | true =>
                                      have hnl : ¬ like ⟨s', p', t'⟩ ⟨s, p, t⟩ := fun h => by have := h.2; simp at ht1 ht2 this; omega
                                      have HNL := hd hnl
                                      clear hnl
                                      go_wp2_with fail
                                      go_quiet (fail)
                                      go_wp2_with fail
                                      go_roundw
                                      case rel => exact ⟨k + 1, false, by omega, rfl, by go_num, drewN_below hbq _, e0, e2, like_next (uh HU') (uh HBB) (by simp [uh HNL])⟩
                                      case measure => simp [intOf]; omega
                                    | false =>
                                      have hli : like ⟨s', p', t'⟩ ⟨s, p, t⟩ := ⟨by simpa using hnm, by simp at ht1 ht2; simp; omega⟩
                                      have HLI := hd hli
                                      clear hli
                                      go_wp2_with fail
                                      go_quiet (fail)
                                      go_wp2_with fail
                                      go_roundw
                                      case rel => exact ⟨k + 1, true, by omega, rfl, by go_num, drewN_below hbq _, e0, e2, like_next (uh HU') (uh HBB) (by simp [uh HLI])⟩
                                      case measure => simp [intOf]; omega
                            · have hkj : k = j := by omega
                              have hk1 : ¬ (k : Int) < j := by omega
                              have hfin : BadB b len (l.take (j + 1)) := good_next (uh HU) (uh HBAD) (uh HOK) (by rw [← hkj]; exact uh HBB)
                              have HFIN := hd hfin
                              clear hfin hkj
                              go_wp2_with fail
                              go_roundw
                              case rel => exact ⟨j + 1, b, by omega, rfl, by go_num, hbq, uh HFIN⟩
                              case measure => simp [intOf]; omega
    · have htk : l.take j = l := List.take_of_length_le (by omega)
      rw [htk] at hbad
      have hlen : len = l.length := by omega
      have hfin : opsE l = if b then 6 else 0 := by
        unfold opsE
        have h := tabN_good l
        unfold BadB at hbad
        rw [hlen] at hbad
        cases hs : (tabN l).isSome with
        | true =>
          rw [hs] at h
          cases b with
          | true => exact (hbad.1 rfl (h.1 rfl)).elim
          | false => rfl
        | false =>
          cases b with
          | true => rfl
          | false => have := hbad.2 (fun hg => by have := h.2 hg; rw [hs] at this; cases this); cases this
      have HFIN := hd hfin
      have hj1 : ¬ (j : Int) < len := by omega
      clear hbad htk hfin hlen
      cases b with
      | true =>
        go_wp2_with fail
        go_ret
        exact ⟨hb, by rw [show opsE l = 6 from uh HFIN]; rfl⟩
      | false =>
        go_wp2_with fail
        go_ret
        exact ⟨hb, by rw [show opsE l = 0 from uh HFIN]; rfl⟩
end Go.Proofs.YtodolgpcnleahaaDoor

