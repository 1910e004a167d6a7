
/-
  Package lines: Common; the reference's LinesCode and TwoFault, walked.
-/
import Derived.Test.YtcheggdfcdokiaaDoorLinA
namespace Go.Proofs.YtcheggdfcdokiaaDoor
open Go.RowKit
set_option maxRecDepth 4000

theorem field0 (a b : Int) (w : World) : (Instr.field 27 (.agg #[.int .i64 a, .int .i64 b]) 0).run Tryd.prog w = .ok (.int .i64 a) w := by kernel_rfl

set_option maxHeartbeats 400000 in
theorem linesCode_any (p : Option Addr) (l : List ByteArray) (n cap : Nat) (w : World) (hn : n = l.length) (hp : Sts w p l) :
    Calls Tryd.prog 28 #[.slice p n cap] w (BPost (.int .i64 (Lin.vC l)) w) := by
  have HP := Lib.hid hp
  have HN := Lib.hid hn
  clear hp hn
  have hfd := field0
  go_enter Tryd.func28, Tryd.ntmps28
  go_wp2_with fail
  refine (linesFault_any _ l _ _ _ HN.out HP.out).mono ?_
  rintro e w1 ⟨rfl, hb1⟩
  go_wp2_with fail
  go_ret
  exact ⟨rfl, hb1⟩
/-- the fault of two texts -/
def tC (l m : List ByteArray) : Int := if Lin.vC l = 0 then Lin.vC m else Lin.vC l
def tI (l m : List ByteArray) : Int := if Lin.vC l = 0 then (if Lin.vC m = 0 then 0 else -2) else Lin.vI l
theorem t_first {l m : List ByteArray} (h : ¬ Lin.vC l = 0) : tC l m = Lin.vC l ∧ tI l m = Lin.vI l := ⟨if_neg h, if_neg h⟩
theorem t_second {l m : List ByteArray} (h : Lin.vC l = 0) (h' : ¬ Lin.vC m = 0) : tC l m = Lin.vC m ∧ tI l m = -2 := ⟨if_pos h, by rw [tI, if_pos h, if_neg h']⟩
theorem t_none {l m : List ByteArray} (h : Lin.vC l = 0) (h' : Lin.vC m = 0) : tC l m = 0 ∧ tI l m = 0 := ⟨by rw [tC, if_pos h, h'], by rw [tI, if_pos h, if_pos h']⟩

/-- a part of a slice of strings -/
theorem Sts.part {w : World} {b off : Nat} {l : List ByteArray} (h : Sts w (some ⟨b, off, none⟩) l) (k n : Nat) (hk : k + n ≤ l.length) : Sts w (some ⟨b, off + k, none⟩) ((l.drop k).take n) := by
  refine ⟨fun x hx => h.small x (List.mem_of_mem_drop (List.mem_of_mem_take hx)), by have := h.len; simp; omega, (fun e => by cases e), fun hn => ?_⟩
  have hn' : 0 < n := by
    rcases Nat.eq_zero_or_pos n with e | e
    · subst e; simp at hn
    · exact e
  have hl : l ≠ [] := by intro e; subst e; simp at hk; omega
  obtain ⟨b', off', e, hb, hc⟩ := h.at' hl
  cases e
  refine ⟨b, off + k, rfl, hb, fun i hi => ?_⟩
  have hi' : i < n := by simp at hi; omega
  rw [Nat.add_assoc, hc (k + i) (by omega)]
  simp [List.getD_eq_getElem?_getD, hi']
theorem sts_nil (w : World) (p : Option Addr) : Sts w p [] := ⟨by simp, by simp, fun _ => rfl, fun h => (h rfl).elim⟩

/-- where a slice from k on lies -/
def sAt (p : Option Addr) (k cap : Nat) : Option Addr := if cap = k then p else p.map (·.add k)
theorem run_from (p : Option Addr) (len cap k : Nat) (h : k ≤ len) (w : World) :
    (Instr.slice 22 (.slice p len cap) (some (.int .i64 (k : Int))) none none).run Tryd.prog w = .ok (.slice (sAt p k cap) (len - k) (cap - k)) w := by
  rw [run_slice_l w 22 p len cap (by rw [Tryd.underlying22]; rfl) .i64 (k : Int) (by omega) (by omega)]
  have : ∀ w, (sizeOf (Tryd.prog.elem 22)).run Tryd.prog w = .ok 1 w := fun w => by kernel_rfl
  rw [this]
  simp [Result.andThen, sliced, sAt]
theorem run_upto (p : Option Addr) (len cap k : Nat) (h : k ≤ cap) (w : World) :
    (Instr.slice 22 (.slice p len cap) none (some (.int .i64 (k : Int))) none).run Tryd.prog w = .ok (.slice p k cap) w := by
  rw [run_slice_h w 22 p len cap (by rw [Tryd.underlying22]; rfl) .i64 (k : Int) (by omega) (by omega)]
  have : ∀ w, (sizeOf (Tryd.prog.elem 22)).run Tryd.prog w = .ok 1 w := fun w => by kernel_rfl
  rw [this]
  have e : (fun a : Addr => a.add 0) = id := by funext a; rfl
  cases p <;> simp [Result.andThen, sliced]
  intro _; rfl
theorem Sts.from {w : World} {p : Option Addr} {l : List ByteArray} (h : Sts w p l) (k cap : Nat) (hk : k ≤ l.length) (hc : l.length ≤ cap) : Sts w (sAt p k cap) (l.drop k) := by
  unfold sAt
  by_cases e : cap = k
  · have : l.drop k = [] := List.drop_eq_nil_of_le (by omega)
    rw [this]; exact sts_nil _ _
  · rw [if_neg e]
    cases p with
    | none => rw [h.nil' rfl]; simp; exact sts_nil _ _
    | some a =>
      by_cases hl : l = []
      · subst hl; simp; exact sts_nil _ _
      · obtain ⟨b, off, e', _, _⟩ := h.at' hl
        cases e'
        have := h.part k (l.length - k) (by omega)
        rw [List.take_of_length_le (by simp)] at this
        show Sts w (some ((⟨b, off, none⟩ : Addr).add k)) _
        rw [add_at]; exact this
theorem Sts.upto {w : World} {p : Option Addr} {l : List ByteArray} (h : Sts w p l) (k : Nat) (hk : k ≤ l.length) : Sts w p (l.take k) := by
  cases p with
  | none => rw [h.nil' rfl]; simp; exact sts_nil _ _
  | some a =>
    by_cases hl : l = []
    · subst hl; simp; exact sts_nil _ _
    · obtain ⟨b, off, e', _, _⟩ := h.at' hl
      cases e'
      have := h.part 0 k (by omega)
      simpa using this

/-- what Common returns -/
def okB (l m : List ByteArray) : Bool := decide (Lin.vC l = 0 ∧ Lin.vC m = 0)
def cP (l m : List ByteArray) : Nat := if Lin.vC l = 0 ∧ Lin.vC m = 0 then Lin.cp l m else 0
def cS (l m : List ByteArray) : Nat := if Lin.vC l = 0 ∧ Lin.vC m = 0 then Lin.cs (l.drop (Lin.cp l m)) (m.drop (Lin.cp l m)) else 0

end Go.Proofs.YtcheggdfcdokiaaDoor
