
/-
  A loop over an iterator whose own variable lies in memory: one law, over an invariant that both sides keep.
-/
import Derived.RangeFuncNested
import Derived.RangeFuncBound
import Derived.RangeFuncCalls
import Derived.RangeFuncLeaves
import Derived.RangeFuncBox
import Derived.WalkKit
namespace Go.Proofs.Ytidncnhhjfdifaa.Rng
open Go.RowKit
set_option maxRecDepth 4000

/-- how a round's body may be left: off its end alone -/
def endPost (K : World → Prop) : Exit → Act → World → Prop
  | .normal, _, W' => K W'
  | .ret, _, _ => False
  | .exit _, _, _ => False
  | .goto _, _, _ => False
  | .panic _, _, _ => False
  | .outgrown, _, _ => False

/-- what the iterator owes: its rounds are yield's at the states that it goes through -/
def Iter {α β : Type} (n : Nat) (P : Program) (gf : FuncId) (lb : Array Value) (encs : α → Array Value) (next : β → α → β) (Y : β → α → Prop) (J : β → World → Prop) (S : β → Prop) (s0 : β) : Prop :=
  ∀ (l : Nat) (R : World → Prop) (W : World), (∀ A B, R A → KeepsOthers A B → R B) → R W → J s0 W →
    (∀ s x W1, Y s x → R W1 → J s W1 → YieldAt Fence.wide (n - 1 - 1) P l (encs x) W1 fun e W' => e = .returned (.bool true) ∧ R W' ∧ J (next s x) W') →
    CallsIn Fence.wide (n - 1) P gf (#[.func (.yield l) #[] #[]] ++ lb) W fun e W' => (∃ v, e = .returned v) ∧ R W' ∧ ∃ s, S s ∧ J s W'

variable {P : Program} {n : Nat}

theorem law {α β : Type} {g : Operand} {ps : Array Tmp} {assign body : Code} {Q : Exit → Act → World → Prop} {a : Act} {w : World}
    {gf : FuncId} {lb : Array Value} (hg : a.eval g = .func (.func gf) #[] lb) (eg : ∀ args w, (callFunc gf args).run P w = .ok (.enter gf args) w)
    {encs : α → Array Value} (hps : ∀ x, (encs x).size = ps.size) {next : β → α → β} {Y : β → α → Prop} {J : β → World → Prop} {S : β → Prop} {s0 : β}
    (hseq : Iter n P gf lb encs next Y J S s0) (hJ : OwnFrom w.heap.size J) (h0 : J s0 w) (a₁ : α → Act)
    (hassign : ∀ (l : Nat) (x : α) (W : World) (K : Act → World → Prop), K (a₁ x) W →
      assign.wpIn (Fence.wide.inRound l) (n - 1 - 1) P (Exit.then K (fun _ _ _ => False)) { tmps := (ps.zip (encs x)).foldl (fun t (p, v) => t.setIfInBounds p v) a.tmps, defers := [] } W)
    (hbody : ∀ (l : Nat) (s : β) (x : α) (W : World), Y s x → J s W → body.wpIn (Fence.wide.inRound l) (n - 1 - 1) P (endPost fun W' => KeepsOthers W W' ∧ J (next s x) W') (a₁ x) W)
    (hdone : ∀ (D : Nat) (s : β) (W : World), w.heap.size ≤ D → S s → J s W → W.heap[D]? = some (.deferred (some [])) → Q .normal { a with defers := { target := .collected D, args := #[] } :: a.defers } W) :
    (Code.rangeFunc g ps assign body).wpIn Fence.wide n P Q a w := by
  refine wpIn_rangeFunc fun fn hfn => ?_
  obtain ⟨rec, hrec⟩ : ∃ rec : LoopState → Loop, rec = fun st => { state := st, pending := none, fn, tmps := a.tmps, params := ps, assign, body, defers := w.heap.size } := ⟨_, rfl⟩
  obtain ⟨W1, hW1⟩ : ∃ W1, (w.alloc (.deferred (some []))).alloc (.loop (rec .ready)) = W1 := ⟨_, rfl⟩
  have z1 : W1.heap.size = w.heap.size + 2 := by rw [← hW1]; simp
  have loop1 : W1.heap[w.heap.size + 1]? = some (.loop (rec .ready)) := by
    have := World.alloc_heap_new (w.alloc (.deferred (some []))) (.loop (rec .ready))
    rw [World.size_alloc, hW1] at this; exact this
  have def1 : W1.heap[w.heap.size]? = some (.deferred (some [])) := by
    rw [← hW1, Below.heap_alloc _ _ _ (by simp)]; exact World.alloc_heap_new w _
  have j1 : J s0 W1 := by rw [← hW1]; exact hJ.alloc _ (hJ.alloc _ h0)
  refine ⟨w.heap.size + 1, [{ target := .collected w.heap.size, args := #[] }], W1, { target := .fn (.func gf) lb, args := #[.func (.yield (w.heap.size + 1)) #[] #[]] }, W1, gf,
    #[.func (.yield (w.heap.size + 1)) #[] #[]] ++ lb, W1, ?_, ?_, fun _ _ => trivial, ?_, (fun h => by cases h), ?_⟩
  · rw [← hW1, hrec]; exact run_enterLoop_outer _ _ _ _ _
  · simp only [resolve, hg]; simp [go_sem]
  · simp [invoke, go_sem, eg]
  · refine (hseq (w.heap.size + 1) (fun W => W.heap[w.heap.size + 1]? = some (.loop (rec .ready)) ∧ W.heap[w.heap.size]? = some (.deferred (some []))) W1
      (fun A B hR hk => ⟨hk.same _ _ hR.1 rfl, hk.same _ _ hR.2 rfl⟩) ⟨loop1, def1⟩ j1 ?_).mono ?_
    · rintro s x W hy0 ⟨hl, hd⟩ hj
      have hy := run_yield (P := P) (args := encs x) hl (by rw [hrec]; exact hps x)
      have hlt : w.heap.size + 1 < W.heap.size := (Array.getElem?_eq_some_iff.1 hl).1
      rw [hrec] at hy
      refine ⟨fn, _, assign, body, hy, roundIn_of_wpIn hfn (hassign _ x W _ ⟨_, run_beginRound hl (by rw [hrec]), ?_⟩)⟩
      refine wpIn_mono (hbody _ s x _ hy0 (hJ.putObj _ hj (by omega) hl rfl)) ?_
      intro e a3 W3 hp
      cases e with
      | normal =>
        obtain ⟨hk, hj3⟩ := hp
        have hl3 := hk.same _ _ (World.putObj_heap_same hlt) rfl
        have hd3 := hk.same _ _ ((World.putObj_heap_other (by omega)).trans hd) rfl
        have hr := run_endRound (P := P) none hl3
        refine ⟨_, _, hr, rfl, ⟨?_, (World.putObj_heap_other (by omega)).trans hd3⟩, hJ.putObj _ hj3 (by omega) hl3 rfl⟩
        rw [World.putObj_heap_same (Array.getElem?_eq_some_iff.1 hl3).1, hrec]; rfl
      | ret => exact hp.elim
      | exit id => exact hp.elim
      | goto t => exact hp.elim
      | panic ch => exact hp.elim
      | outgrown => exact hp.elim
    · rintro e W2 ⟨⟨v, rfl⟩, ⟨hl, hd⟩, s, hS, hj⟩
      refine ⟨none, _, ?_, hdone w.heap.size s _ (Nat.le_refl _) hS (hJ.putObj (.loop { rec .ready with state := .exhausted }) hj (by omega) hl rfl) ((World.putObj_heap_other (by omega)).trans hd)⟩
      have := run_endLoop (P := P) hl (by rw [hrec]; simp)
      rw [this]; rw [hrec]
end Go.Proofs.Ytidncnhhjfdifaa.Rng
