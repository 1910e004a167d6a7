
/-
  The reference's search of an offset, as plain mathematics; its abs and moved, walked.
-/
import Derived.Test.YtcheggdfcdokiaaDoorUnM
import Derived.Test.YtcheggdfcdokiaaDoorTpH
import Derived.IntWalk
namespace Go.Proofs.YtcheggdfcdokiaaDoor.Tp
open Go.RowKit
set_option maxRecDepth 4000
/-- the best offset among those from -R on that are less than d; R + 1 if there is none -/
def Bs (t : List ByteArray) (low : Int) (h : H) (R d best : Int) : Prop :=
  (best = R + 1 ∧ ∀ x, -R ≤ x → x < d → fit t low h x = false) ∨
  (fit t low h best = true ∧ -R ≤ best ∧ best < d ∧ ∀ x, -R ≤ x → x < d → fit t low h x = true → best.natAbs < x.natAbs ∨ (best.natAbs = x.natAbs ∧ best ≤ x))
theorem Bs.start (t : List ByteArray) (low : Int) (h : H) (R : Int) : Bs t low h R (-R) (R + 1) := .inl ⟨rfl, fun x h1 h2 => by omega⟩
theorem Bs.hit {t : List ByteArray} {low : Int} {h : H} {R d best : Int} (b : Bs t low h R d best) (h0 : -R ≤ d) (hf : fit t low h d = true) (ha : d.natAbs < best.natAbs) : Bs t low h R (d + 1) d := by
  refine .inr ⟨hf, h0, by omega, fun x h1 h2 hx => ?_⟩
  by_cases e : x = d
  · subst e; exact .inr ⟨rfl, Int.le_refl _⟩
  · rcases b with ⟨-, b2⟩ | ⟨-, -, -, b4⟩
    · rw [b2 x h1 (by omega)] at hx; cases hx
    · have := b4 x h1 (by omega) hx
      omega
theorem Bs.miss {t : List ByteArray} {low : Int} {h : H} {R d best : Int} (b : Bs t low h R d best) (h0 : -R ≤ d) (h1 : d ≤ R) (hf : fit t low h d = false ∨ best.natAbs ≤ d.natAbs) : Bs t low h R (d + 1) best := by
  rcases b with ⟨b1, b2⟩ | ⟨b1, b2, b3, b4⟩
  · refine .inl ⟨b1, fun x h2 h3 => ?_⟩
    by_cases e : x = d
    · subst e
      rcases hf with hf | hf
      · exact hf
      · omega
    · exact b2 x h2 (by omega)
  · refine .inr ⟨b1, b2, by omega, fun x h2 h3 hx => ?_⟩
    by_cases e : x = d
    · subst e
      rcases hf with hf | hf
      · rw [hf] at hx; cases hx
      · omega
    · exact b4 x h2 (by omega) hx
theorem Bs.done {t : List ByteArray} {low : Int} {h : H} {R : Nat} {best : Int} (b : Bs t low h R ((R : Int) + 1) best) : (best ≤ R ∧ off t R low h = some best) ∨ (best = (R : Int) + 1 ∧ off t R low h = none) := by
  rcases b with ⟨b1, b2⟩ | ⟨b1, b2, b3, b4⟩
  · refine .inr ⟨b1, ?_⟩
    cases e : off t R low h with
    | none => rfl
    | some d =>
      obtain ⟨k1, k2, k3⟩ := off_is e
      have := b2 d (by omega) (by omega)
      rw [fit_true.2 ⟨k1, k2⟩] at this
      cases this
  · refine .inl ⟨by omega, off_eq b1 (by omega) (fun d' hd => ?_)⟩
    cases e : fit t low h d' with
    | false => rfl
    | true =>
      have := b4 d' (by omega) (by omega) e
      omega
end Go.Proofs.YtcheggdfcdokiaaDoor.Tp
namespace Go.Proofs.YtcheggdfcdokiaaDoor
open Go.RowKit
set_option maxRecDepth 4000

theorem refAbs_any (d : Int) (w : World) (h1 : -1000000 ≤ d) (h2 : d ≤ 1000000) : Calls Tryd.prog 30 #[.int .i64 d] w fun e w' => e = .returned (.int .i64 (d.natAbs : Nat)) ∧ w' = w := by
  by_cases h : d < 0
  · have g0 : decide (d < 0) = true := decide_eq_true h
    have e : -d = (d.natAbs : Int) := by omega
    have wz : IntKind.i64.wrap (-d) = -d := IntWalk.i64_in _ (by omega)
    have E := Lib.hid e
    clear h e
    go_enter Tryd.func30, Tryd.ntmps30
    go_wp2_with fail
    go_returns
    exact ⟨by rw [← E.out]; rfl, rfl⟩
  · have g0 : decide (d < 0) = false := decide_eq_false h
    have e : d = (d.natAbs : Int) := by omega
    have E := Lib.hid e
    clear h e
    go_enter Tryd.func30, Tryd.ntmps30
    go_wp2_with fail
    go_returns
    exact ⟨by rw [← E.out]; rfl, rfl⟩
end Go.Proofs.YtcheggdfcdokiaaDoor
