import Derived.Test.YtffbhinpmlcopaaArI
import Derived.Deep.CutRange
/- The law ArithDivides, a case of signs. -/
namespace Go.Proofs.Ytffbhinpmlcopaa
open Go.RowKit Go.Shelf

set_option maxRecDepth 100000 in
set_option maxHeartbeats 30000000 in
theorem divides_pz (a b c q r d m G : Int) (ha : inR a) (hb : inR b) (_h0 : b ≠ 0) (w : World)
    (hq : ∀ w, Calls Try.prog 22 #[.string ⟨#[47, 47]⟩, .int .i64 a, .int .i64 b] w fun e W' => e = .returned (.tuple #[.int .i64 q, .bool true]) ∧ Below w.heap.size w W')
    (hr : ∀ w, Calls Try.prog 22 #[.string ⟨#[114, 101, 109]⟩, .int .i64 a, .int .i64 b] w fun e W' => e = .returned (.tuple #[.int .i64 r, .bool true]) ∧ Below w.heap.size w W')
    (hd : ∀ w, Calls Try.prog 22 #[.string ⟨#[100, 105, 118]⟩, .int .i64 a, .int .i64 b] w fun e W' => e = .returned (.tuple #[.int .i64 d, .bool true]) ∧ Below w.heap.size w W')
    (hm : ∀ w, Calls Try.prog 22 #[.string ⟨#[109, 111, 100]⟩, .int .i64 a, .int .i64 b] w fun e W' => e = .returned (.tuple #[.int .i64 m, .bool true]) ∧ Below w.heap.size w W')
    (hg : ∀ w, Calls Try.prog 22 #[.string ⟨#[103, 99, 100]⟩, .int .i64 a, .int .i64 b] w fun e W' => e = .returned (.tuple #[.int .i64 G, .bool true]) ∧ Below w.heap.size w W')
    (l1 : q * b + r ≤ a) (l2 : a ≤ q * b + r) (l3 : -9223372036854775808 ≤ q * b ∧ q * b ≤ 9223372036854775807) (l4 : (wrap64 (wrap64 (d * b) + m) != a) = false) (l7 : d ≤ q)
    (hG : 1 ≤ G ∧ G ≤ 9223372036854775807) (aG : a.tmod G = 0) (bG : b.tmod G = 0) (hcc : Divs a b c G) (s0 : 0 < b) (s1 : r ≤ 0 ∧ 0 ≤ r) (s2 : m ≤ 0 ∧ 0 ≤ m) (s3 : (r == 0) = true) (s4 : (m == 0) = true) :
    Calls Try.prog 7 #[.int .i64 a, .int .i64 b, .int .i64 c] w fun e W' => e = .returned (.bool true) ∧ Below w.heap.size w W' := by
  have a1 := ha.1
  have a2 := ha.2
  have b1 := hb.1
  have b2 := hb.2
  have AG : Hid _ := aG
  have BG : Hid _ := bG
  have HG : Hid _ := hG
  have HCC : Hid _ := hcc
  have hq' : Hid _ := hq
  have hr' : Hid _ := hr
  have hd' : Hid _ := hd
  have hm' : Hid _ := hm
  have hg' : Hid _ := hg
  clear ha hb aG bG hG hcc hq hr hd hm hg
  obtain ⟨s11, s12⟩ := s1
  obtain ⟨s21, s22⟩ := s2
  go_enter Try.func7, Try.ntmps7
  go_wp2_with fail
  refine (hq'.out _).mono ?_
  rintro e W1 ⟨rfl, hb1⟩
  clear hq'
  go_wp2_with fail
  refine (hr'.out _).mono ?_
  rintro e W2 ⟨rfl, hb2⟩
  clear hr'
  go_wp2_with fail
  refine (hd'.out _).mono ?_
  rintro e W3 ⟨rfl, hb3⟩
  clear hd'
  go_wp2_with fail
  refine (hm'.out _).mono ?_
  rintro e W4 ⟨rfl, hb4⟩
  clear hm'
  have hB2 := hb1.trans (hb2.mono hb1.size)
  have hB3 := hB2.trans (hb3.mono hB2.size)
  have HB : Hid _ := hB3.trans (hb4.mono hB3.size)
  clear hb1 hb2 hb3 hb4 hB2 hB3
  go_upto_region 11 with fail
  clear l1 l2 l3 l4 l7
  go_cut [140] from 17 (fun s wc => s = .bool false ∧ W4 = wc)
  case first =>
    clear HCC AG BG HG hg'
    go_wp2_with fail
    all_goals go_meet
    all_goals exact ⟨by first | rfl | (simp; omega) | simp, rfl⟩
  case rest =>
    obtain ⟨rfl, rfl⟩ := hcut
    go_upto_region 13 with fail
    go_cut [182] from 17 (fun s wc => s = .bool false ∧ W4 = wc)
    case first =>
      clear HCC AG BG HG hg'
      go_wp2_with fail
      all_goals go_meet
      all_goals exact ⟨by first | rfl | (simp; omega) | simp, rfl⟩
    case rest =>
      obtain ⟨rfl, rfl⟩ := hcut
      go_wp2_with fail
      refine (hg'.out _).mono ?_
      rintro e W5 ⟨rfl, hb5⟩
      clear hg'
      have HF : Hid (Below w.heap.size w W5) := HB.out.trans (hb5.mono HB.out.size)
      have aG := AG.out
      have bG := BG.out
      have aG2 := (rem_zero _ _).2 aG
      have bG2 := (rem_zero _ _).2 bG
      have hG1 := HG.out.1
      have hG2 := HG.out.2
      clear hb5 HB AG BG HG
      go_upto_region 20 with fail
      clear aG bG aG2 bG2
      rcases HCC.out with hc0 | hc0 | ⟨h1, h2, ⟨h3, h3'⟩ | ⟨h3, h3', h4, h4'⟩ | ⟨h3, h3', h4, h4', h5, h5'⟩⟩
      all_goals clear HCC
      all_goals go_wp2
      all_goals go_ret
      all_goals (refine ⟨?_, HF.out⟩; first | rfl | (simp [*]; done) | trace_state)
end Go.Proofs.Ytffbhinpmlcopaa

