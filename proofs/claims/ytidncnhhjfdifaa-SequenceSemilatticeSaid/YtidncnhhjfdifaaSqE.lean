
/-
  Package sequence: Validate.
-/
import Derived.Test.YtidncnhhjfdifaaSqD
import Derived.LoopTactic
namespace Go.Proofs.Ytidncnhhjfdifaa
open Go.RowKit
set_option maxRecDepth 4000

/-- an operation's code -/
def Sq.oC (o : Sq.O) : Int := if Sq.inR o.el = true then (if o.del = true then Sq.dC o else Sq.iC o) else 3
set_option maxRecDepth 100000 in
theorem codeOf_any (o : Sq.O) (w : World) (hl : o.line.size ≤ 140737488351232) : Calls Try.prog 60 #[o.v] w (BPost (.int .i64 (Sq.oC o)) w) := by
  have up0 := boxO_up w o
  have O0 := Lib.hid (OpB.new w o)
  cases hr : Sq.inR o.el
  · have E : Sq.oC o = 3 := by unfold Sq.oC; rw [hr]; rfl
    rw [E]
    clear E
    unfold Sq.O.v
    unfold boxO at up0 O0
    go_enter Try.func60, Try.ntmps60
    go_wp2_with (first | (go_at_call 52; refine (elementOf_any o _).mono ?_; rintro e w2 ⟨rfl, hb2⟩) | (go_at_call 89; refine (inRange_any o.el _).mono ?_; rintro e w3 ⟨rfl, hb3⟩; rw [hr]))
    go_returns
    exact ⟨rfl, up_call (up_call up0 hb2) hb3⟩
  · cases hd : o.del
    · have E : Sq.oC o = Sq.iC o := by unfold Sq.oC; rw [hr, hd]; rfl
      rw [E]
      clear E
      unfold boxO at up0 O0
      have e1 : o.v = .agg #[.bool false, .int .i64 o.rep, .int .i64 o.cnt, .int .i64 o.arep, .int .i64 o.acnt, .string o.line] := by unfold Sq.O.v; rw [hd]
      have k1 := insertionCode_any o
      rw [e1] at k1
      rw [e1]
      rw [hd] at up0 O0
      go_enter Try.func60, Try.ntmps60
      go_wp2_with (first | (go_at_call 52; refine (show Calls Try.prog 52 _ _ (BPost (elV o.el) _) from e1 ▸ elementOf_any o _).mono ?_; rintro e w2 ⟨rfl, hb2⟩) | (go_at_call 89; refine (inRange_any o.el _).mono ?_; rintro e w3 ⟨rfl, hb3⟩; rw [hr]; obtain ⟨c0, c1, c2, c3, c4, c5, _⟩ := (O0.out.up hb2).up hb3; rw [hd] at c0) | (go_at_call 91; refine (k1 _ hl).mono ?_; rintro e w4 ⟨rfl, hb4⟩))
      go_returns
      exact ⟨rfl, up_call (up_call (up_call up0 hb2) hb3) hb4⟩
    · have E : Sq.oC o = Sq.dC o := by unfold Sq.oC; rw [hr, hd]; rfl
      rw [E]
      clear E
      unfold boxO at up0 O0
      have e1 : o.v = .agg #[.bool true, .int .i64 o.rep, .int .i64 o.cnt, .int .i64 o.arep, .int .i64 o.acnt, .string o.line] := by unfold Sq.O.v; rw [hd]
      have k1 := fun w => deletionCode_any o w hd
      rw [e1] at k1
      rw [e1]
      rw [hd] at up0 O0
      go_enter Try.func60, Try.ntmps60
      go_wp2_with (first | (go_at_call 52; refine (show Calls Try.prog 52 _ _ (BPost (elV o.el) _) from e1 ▸ elementOf_any o _).mono ?_; rintro e w2 ⟨rfl, hb2⟩) | (go_at_call 89; refine (inRange_any o.el _).mono ?_; rintro e w3 ⟨rfl, hb3⟩; rw [hr]; obtain ⟨c0, c1, c2, c3, c4, c5, _⟩ := (O0.out.up hb2).up hb3; rw [hd] at c0) | (go_at_call 90; refine (k1 _).mono ?_; rintro e w4 ⟨rfl, hb4⟩))
      go_returns
      exact ⟨rfl, up_call (up_call (up_call up0 hb2) hb3) hb4⟩

namespace Sq
/-- the first position of which p holds -/
def fst (p : Nat → Bool) (n : Nat) : Option Nat := (List.range n).find? p
theorem fst_some {p : Nat → Bool} {n k : Nat} (hk : k < n) (hp : p k = true) (hn : ∀ j, j < k → p j = false) : fst p n = some k := by
  unfold fst
  rw [List.find?_range_eq_some]
  exact ⟨by simpa using hp, by simpa using hk, fun j hj => by simpa using hn j hj⟩
theorem fst_none {p : Nat → Bool} {n : Nat} (hn : ∀ j, j < n → p j = false) : fst p n = none := by
  unfold fst
  rw [List.find?_eq_none]
  intro j hj
  rw [hn j (List.mem_range.1 hj)]
  simp
/-- the code at a position -/
def cd (l : List O) (i : Nat) : Int := match l[i]? with
  | none => 0
  | some o => if oC o = 0 ∧ o.id ∈ (l.take i).map O.id then 7 else oC o
/-- the element that an operation needs -/
def O.nd (o : O) : El := if o.del then o.el else o.pr
def ms (l : List O) (i : Nat) : Bool := match l[i]? with
  | none => false
  | some o => decide (o.nd ≠ (0, 0) ∧ (o.nd, 0) ∉ l.map O.id)
def vC (l : List O) : Int := if 60 < l.length then 2 else match fst (fun i => decide (cd l i ≠ 0)) l.length with
  | some k => cd l k
  | none => match fst (ms l) l.length with
    | some _ => 6
    | none => 0
def vI (l : List O) : Int := if 60 < l.length then -1 else match fst (fun i => decide (cd l i ≠ 0)) l.length with
  | some k => k
  | none => match fst (ms l) l.length with
    | some k => k
    | none => 0
theorem inR_ok {x : El} (h : inR x = true) : elOk x := by
  unfold inR at h
  simp only [Bool.and_eq_true, decide_eq_true_eq] at h
  obtain ⟨⟨⟨h1, h2⟩, h3⟩, h4⟩ := h
  constructor
  · exact WalkArith.wf_i64 ⟨by omega, by omega⟩
  · exact WalkArith.wf_i64 ⟨by omega, by omega⟩
theorem oC_in {o : O} (h : oC o = 0) : inR o.el = true := by
  unfold oC at h
  split at h
  · assumption
  · omega
theorem id_ok {o : O} (h : oC o = 0) : idOk o.id := by
  refine ⟨inR_ok (oC_in h), ?_⟩
  unfold O.id O.kd
  dsimp only
  split <;> decide
theorem nd_ok {o : O} (h : oC o = 0) : elOk o.nd := by
  unfold O.nd
  split
  · exact inR_ok (oC_in h)
  · rename_i hd
    unfold oC at h
    rw [if_pos (oC_in (by unfold oC; exact h)), if_neg hd] at h
    unfold iC at h
    split at h
    · omega
    · rename_i hn
      by_cases hz : o.acnt = 0 ∧ o.arep = 0
      · unfold O.pr; rw [hz.1, hz.2]; exact ⟨by decide, by decide⟩
      · cases hr : inR o.pr with
        | true => exact inR_ok hr
        | false => exact absurd ⟨hz, hr⟩ hn
end Sq
end Go.Proofs.Ytidncnhhjfdifaa
