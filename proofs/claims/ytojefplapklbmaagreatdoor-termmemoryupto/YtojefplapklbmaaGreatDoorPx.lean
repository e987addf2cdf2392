import Derived.Test.YtojefplapklbmaaGreatDoorGes
import Derived.ChangeSlices
import Derived.OpenShut
/- A path that can be read as data lies in memory as IsN says. -/
namespace Go.Proofs.YtojefplapklbmaaGreatDoor
open Go.ChangeShapes Go.WideShapes Go.ChangeAt Go.RowKit

set_option maxRecDepth 100000 in
/-- A path that can be read: a row of numbers. -/
theorem open_path {H : Type} {enc : TypeId × Value → H} {w : World} {r : Reach} {b0 : Nat} {spare : Nat → Bool} {held : Bool} {v : Value} {d : DataW H} {p : List MemPlace} (hv : Value.okWide Tryz.prog w r b0 25 v) (h : DataW.Trod enc Tryz.prog w 0 spare held 25 v d p) (hd : Rows.uptoBulk d ≤ 1048576) :
    ∃ a len cap ns, v = .slice a len cap ∧ len ≤ cap ∧ IsN w a len ns := by
  obtain ⟨a, len, cap, rfl⟩ := okWide_slice Tryz.underlying25 hv
  obtain ⟨fuel, hf⟩ := h
  have hf' : DataW.trod enc Tryz.prog w 0 spare held fuel 25 [.slice a len cap] = some (d, p) := by simpa [Value.cells] using hf
  refine ⟨a, len, cap, ?_⟩
  rcases Go.ChangeShapes.open_ints Tryz.underlying25 Tryz.underlying3 (by kernel_rfl) hf' with ⟨g, -⟩ | ⟨a', len', cap', zs, g, hb, hlc, hmx, hzl, hx, hc, -⟩
  · simp only [List.cons.injEq, and_true, Value.slice.injEq] at g
    obtain ⟨rfl, rfl, rfl⟩ := g
    exact ⟨[], rfl, by omega, rfl, by omega, .inl rfl⟩
  · simp only [List.cons.injEq, and_true, Value.slice.injEq] at g
    obtain ⟨rfl, rfl, rfl⟩ := g
    have hzl' : len ≤ zs.length := by rw [hzl]; split <;> omega
    have hlen : len ≤ 1048576 := by
      have h1 : d = _ := (Prod.ext_iff.1 hx).1
      rw [h1] at hd
      simp only [Rows.uptoBulk] at hd
      have h2 := bulk_len (Go.ChangeShapes.lits (H := H) .i64 (zs.take len))
      simp only [Go.ChangeShapes.lits, List.length_map, List.length_take] at h2
      simp only [Go.ChangeShapes.lits] at hd
      omega
    refine ⟨zs.take len, rfl, hlc, by simp; omega, by omega, ?_⟩
    by_cases hl0 : len = 0
    · exact .inl (by simp [hl0])
    · obtain ⟨b, off, spot⟩ := a'
      have h0 := hc 0 (by omega)
      have hspot : spot = none := by simpa [Addr.add] using World.cell?_spot h0
      subst hspot
      refine .inr ⟨b, off, rfl, cell_lt (by simpa [Addr.add] using h0), fun j N hj => ?_⟩
      have hjl := (List.getElem?_eq_some_iff.1 hj).1
      simp only [List.length_take] at hjl
      have h1 := hc j (by omega)
      rw [List.getElem?_take] at hj
      rw [if_pos (by omega)] at hj
      rw [List.getD_eq_getElem?_getD, hj] at h1
      rw [add_none] at h1
      simpa using h1

end Go.Proofs.YtojefplapklbmaaGreatDoor

