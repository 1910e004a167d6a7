/-
  Package lines: Common; the reference's LinesCode and TwoFault, walked.
-/
import Derived.Test.YtbgnckbgpiajjaaLinA
namespace Go.Proofs.Ytbgnckbgpiajjaa
open Go.RowKit
set_option maxRecDepth 4000

theorem field0 (a b : Int) (w : World) : (Instr.field 25 (.agg #[.int .i64 a, .int .i64 b]) 0).run Try.prog w = .ok (.int .i64 a) w := by kernel_rfl

set_option maxHeartbeats 400000 in
theorem linesCode_any (p : Option Addr) (l : List ByteArray) (n cap : Nat) (w : World) (hn : n = l.length) (hp : Sts w p l) :
    Calls Try.prog 44 #[.slice p n cap] w (BPost (.int .i64 (Lin.vC l)) w) := by
  have HP := Lib.hid hp
  have HN := Lib.hid hn
  clear hp hn
  have hfd := field0
  go_enter Try.func44, Try.ntmps44
  go_wp2_with fail
  refine (linesFault_any _ l _ _ _ HN.out HP.out).mono ?_
  rintro e w1 ⟨rfl, hb1⟩
  go_wp2_with fail
  go_ret
  exact ⟨rfl, hb1⟩
/-- the fault of two texts -/
def tC (l m : List ByteArray) : Int := if Lin.vC l = 0 then Lin.vC m else Lin.vC l
def tI (l m : List ByteArray) : Int := if Lin.vC l = 0 then (if Lin.vC m = 0 then 0 else -2) else Lin.vI l
theorem t_first {l m : List ByteArray} (h : ¬ Lin.vC l = 0) : tC l m = Lin.vC l ∧ tI l m = Lin.vI l := ⟨if_neg h, if_neg h⟩
theorem t_second {l m : List ByteArray} (h : Lin.vC l = 0) (h' : ¬ Lin.vC m = 0) : tC l m = Lin.vC m ∧ tI l m = -2 := ⟨if_pos h, by rw [tI, if_pos h, if_neg h']⟩
theorem t_none {l m : List ByteArray} (h : Lin.vC l = 0) (h' : Lin.vC m = 0) : tC l m = 0 ∧ tI l m = 0 := ⟨by rw [tC, if_pos h, h'], by rw [tI, if_pos h, if_pos h']⟩

set_option maxHeartbeats 2000000 in
theorem twoFault_any (p q : Option Addr) (l m : List ByteArray) (n k cap cap' : Nat) (w : World) (hn : n = l.length) (hk : k = m.length) (hp : Sts w p l) (hq : Sts w q m) :
    Calls Try.prog 43 #[.slice p n cap, .slice q k cap'] w (BPost (.agg #[.int .i64 (tC l m), .int .i64 (tI l m)]) w) := by
  subst hn hk
  have HP := Lib.hid hp
  have HQ := Lib.hid hq
  clear hp hq
  go_enter Try.func43, Try.ntmps43
  go_wp2_with fail
  refine (linesFault_any _ l _ _ _ rfl (HP.out.mono (up_alloc (Below.refl _ _) _))).mono ?_
  rintro e w1 ⟨rfl, hb1⟩
  have FA := (Flt.new w 0 0 25).up hb1
  have HA := Lib.hid FA
  have FB := Lib.hid (Flt.new w1 (Lin.vC l) (Lin.vI l) 25)
  have u1 := up_call (up_alloc (Below.refl w.heap.size w) _) hb1
  by_cases h1 : Lin.vC l = 0
  · have g1 : (Lin.vC l == 0) = true := by rw [h1]; rfl
    by_cases h2 : Lin.vC m = 0
    · have g2 : (Lin.vC m != 0) = false := by rw [h2]; rfl
      have E : Hid (tC l m = Lin.vC l ∧ tI l m = Lin.vI l) := Lib.hid (by rw [(t_none h1 h2).1, (t_none h1 h2).2, h1, Lin.vI_zero h1]; exact ⟨rfl, rfl⟩)
      obtain ⟨a0, a1, a2, a3, a4⟩ := FA
      clear h1 h2
      go_wp2_with fail
      refine (linesCode_any _ m _ _ _ rfl (HQ.out.mono (up_alloc u1 _))).mono ?_
      rintro e w2 ⟨rfl, hb2⟩
      have FB2 := FB.out.up hb2
      have FA2 := (HA.out.alloc (.cells #[.int .i64 (Lin.vC l), .int .i64 (Lin.vI l)] 25 (0, 0))).up hb2
      obtain ⟨b0, b1, b2, b3, b4⟩ := FB2
      obtain ⟨d0, d1, -, -, -⟩ := FA2.set2 (Lin.vC l) (Lin.vI l)
      obtain ⟨c0, c1, c2, c3, c4⟩ := FA2
      have u2 := up_call (up_alloc u1 (.cells #[.int .i64 (Lin.vC l), .int .i64 (Lin.vI l)] 25 (0, 0))) hb2
      go_wp2_with fail
      refine bodyPost_ret (v := .agg #[.int .i64 (Lin.vC l), .int .i64 (Lin.vI l)]) (by simp [results, Try.results43, go_sem, d0, d1]) rfl ⟨by rw [E.out.1, E.out.2], ?_⟩
      exact (u2.setCell (Nat.le_refl _) _).setCell (Nat.le_refl _) _
    · have g2 : (Lin.vC m != 0) = true := by simpa using h2
      have E : Hid (tC l m = Lin.vC m ∧ tI l m = -2) := Lib.hid (t_second h1 h2)
      obtain ⟨a0, a1, a2, a3, a4⟩ := FA
      clear h1 h2
      go_wp2_with fail
      refine (linesCode_any _ m _ _ _ rfl (HQ.out.mono (up_alloc u1 _))).mono ?_
      rintro e w2 ⟨rfl, hb2⟩
      have FB2 := FB.out.up hb2
      have FA2 := (HA.out.alloc (.cells #[.int .i64 (Lin.vC l), .int .i64 (Lin.vI l)] 25 (0, 0))).up hb2
      have u2 := up_call (up_alloc u1 (.cells #[.int .i64 (Lin.vC l), .int .i64 (Lin.vI l)] 25 (0, 0))) hb2
      have HB2 := Lib.hid FB2
      have HA2 := Lib.hid FA2
      go_wp2_with fail
      refine (linesCode_any _ m _ _ _ rfl (HQ.out.mono u2)).mono ?_
      rintro e w3 ⟨rfl, hb3⟩
      go_wp2_with fail
      refine (at_any _ _ _).mono ?_
      rintro e w4 ⟨rfl, hb4⟩
      have hb5 := hb3.trans (hb4.mono hb3.size)
      have FB3 := HB2.out.up hb5
      have FA3 := HA2.out.up hb5
      have u4 := up_call u2 hb5
      clear a0 a1 a2 a3 a4 FB2 FA2 hb3 hb4 hb5
      obtain ⟨x0, x1, x2, x3, x4⟩ := FB3.set2 (Lin.vC m) (-2)
      have FA4 : Flt ((w4.setCell ⟨w1.heap.size, 0, none⟩ (.int .i64 (Lin.vC m))).setCell ⟨w1.heap.size, 1, none⟩ (.int .i64 (-2))) w.heap.size 0 0 := FA3.far (by have := HA.out.lt; omega) _ _
      obtain ⟨d0, d1, -, -, -⟩ := FA4.set2 (Lin.vC m) (-2)
      obtain ⟨b0, b1, b2, b3, b4⟩ := FB3
      obtain ⟨c0, c1, c2, c3, c4⟩ := FA4
      obtain ⟨e0, e1, e2, e3, e4⟩ := FA3
      go_wp2_with fail
      refine bodyPost_ret (v := .agg #[.int .i64 (Lin.vC m), .int .i64 (-2)]) (by simp [results, Try.results43, go_sem, d0, d1]) rfl ⟨by rw [E.out.1, E.out.2], ?_⟩
      exact (((u4.setCell (by have := u1.size; simpa using this) _).setCell (by have := u1.size; simpa using this) _).setCell (Nat.le_refl _) _).setCell (Nat.le_refl _) _
  · have g1 : (Lin.vC l == 0) = false := by simpa using h1
    have E := Lib.hid (t_first (m := m) h1)
    obtain ⟨d0, d1, -, -, -⟩ := (FA.set2 (Lin.vC l) (Lin.vI l)).alloc (.cells #[.int .i64 (Lin.vC l), .int .i64 (Lin.vI l)] 25 (0, 0))
    obtain ⟨a0, a1, a2, a3, a4⟩ := FA
    clear h1
    go_wp2_with fail
    refine bodyPost_ret (v := .agg #[.int .i64 (Lin.vC l), .int .i64 (Lin.vI l)]) (by simp [results, Try.results43, go_sem, d0, d1]) rfl ⟨by rw [E.out.1, E.out.2], ?_⟩
    exact up_alloc ((u1.setCell (Nat.le_refl _) _).setCell (Nat.le_refl _) _) _
/-- a part of a slice of strings -/
theorem Sts.part {w : World} {b off : Nat} {l : List ByteArray} (h : Sts w (some ⟨b, off, none⟩) l) (k n : Nat) (hk : k + n ≤ l.length) : Sts w (some ⟨b, off + k, none⟩) ((l.drop k).take n) := by
  refine ⟨fun x hx => h.small x (List.mem_of_mem_drop (List.mem_of_mem_take hx)), by have := h.len; simp; omega, (fun e => by cases e), fun hn => ?_⟩
  have hn' : 0 < n := by
    rcases Nat.eq_zero_or_pos n with e | e
    · subst e; simp at hn
    · exact e
  have hl : l ≠ [] := by intro e; subst e; simp at hk; omega
  obtain ⟨b', off', e, hb, hc⟩ := h.at' hl
  cases e
  refine ⟨b, off + k, rfl, hb, fun i hi => ?_⟩
  have hi' : i < n := by simp at hi; omega
  rw [Nat.add_assoc, hc (k + i) (by omega)]
  simp [List.getD_eq_getElem?_getD, hi']
theorem sts_nil (w : World) (p : Option Addr) : Sts w p [] := ⟨by simp, by simp, fun _ => rfl, fun h => (h rfl).elim⟩

/-- where a slice from k on lies -/
def sAt (p : Option Addr) (k cap : Nat) : Option Addr := if cap = k then p else p.map (·.add k)
theorem run_from (p : Option Addr) (len cap k : Nat) (h : k ≤ len) (w : World) :
    (Instr.slice 22 (.slice p len cap) (some (.int .i64 (k : Int))) none none).run Try.prog w = .ok (.slice (sAt p k cap) (len - k) (cap - k)) w := by
  rw [run_slice_l w 22 p len cap (by rw [Try.underlying22]; rfl) .i64 (k : Int) (by omega) (by omega)]
  have : ∀ w, (sizeOf (Try.prog.elem 22)).run Try.prog w = .ok 1 w := fun w => by kernel_rfl
  rw [this]
  simp [Result.andThen, sliced, sAt]
theorem run_upto (p : Option Addr) (len cap k : Nat) (h : k ≤ cap) (w : World) :
    (Instr.slice 22 (.slice p len cap) none (some (.int .i64 (k : Int))) none).run Try.prog w = .ok (.slice p k cap) w := by
  rw [run_slice_h w 22 p len cap (by rw [Try.underlying22]; rfl) .i64 (k : Int) (by omega) (by omega)]
  have : ∀ w, (sizeOf (Try.prog.elem 22)).run Try.prog w = .ok 1 w := fun w => by kernel_rfl
  rw [this]
  have e : (fun a : Addr => a.add 0) = id := by funext a; rfl
  cases p <;> simp [Result.andThen, sliced]
  intro _; rfl
theorem Sts.from {w : World} {p : Option Addr} {l : List ByteArray} (h : Sts w p l) (k cap : Nat) (hk : k ≤ l.length) (hc : l.length ≤ cap) : Sts w (sAt p k cap) (l.drop k) := by
  unfold sAt
  by_cases e : cap = k
  · have : l.drop k = [] := List.drop_eq_nil_of_le (by omega)
    rw [this]; exact sts_nil _ _
  · rw [if_neg e]
    cases p with
    | none => rw [h.nil' rfl]; simp; exact sts_nil _ _
    | some a =>
      by_cases hl : l = []
      · subst hl; simp; exact sts_nil _ _
      · obtain ⟨b, off, e', _, _⟩ := h.at' hl
        cases e'
        have := h.part k (l.length - k) (by omega)
        rw [List.take_of_length_le (by simp)] at this
        show Sts w (some ((⟨b, off, none⟩ : Addr).add k)) _
        rw [add_at]; exact this
theorem Sts.upto {w : World} {p : Option Addr} {l : List ByteArray} (h : Sts w p l) (k : Nat) (hk : k ≤ l.length) : Sts w p (l.take k) := by
  cases p with
  | none => rw [h.nil' rfl]; simp; exact sts_nil _ _
  | some a =>
    by_cases hl : l = []
    · subst hl; simp; exact sts_nil _ _
    · obtain ⟨b, off, e', _, _⟩ := h.at' hl
      cases e'
      have := h.part 0 k (by omega)
      simpa using this

/-- what Common returns -/
def okB (l m : List ByteArray) : Bool := decide (Lin.vC l = 0 ∧ Lin.vC m = 0)
def cP (l m : List ByteArray) : Nat := if Lin.vC l = 0 ∧ Lin.vC m = 0 then Lin.cp l m else 0
def cS (l m : List ByteArray) : Nat := if Lin.vC l = 0 ∧ Lin.vC m = 0 then Lin.cs (l.drop (Lin.cp l m)) (m.drop (Lin.cp l m)) else 0

end Go.Proofs.Ytbgnckbgpiajjaa
