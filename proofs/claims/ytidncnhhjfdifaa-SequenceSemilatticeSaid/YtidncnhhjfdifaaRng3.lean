
/-
  A loop over an iterator: the round as one.
-/
import Derived.Test.YtidncnhhjfdifaaRng
import Derived.RangeFuncWrites
namespace Go.Proofs.Ytidncnhhjfdifaa.Rng
open Go.RowKit
set_option maxRecDepth 4000
variable {P : Program} {n : Nat}

theorem law3 {α β : Type} {g : Operand} {ps : Array Tmp} {assign body : Code} {Q : Exit → Act → World → Prop} {a : Act} {w : World}
    {gf : FuncId} {lb : Array Value} (hg : a.eval g = .func (.func gf) #[] lb) (eg : ∀ args w, (callFunc gf args).run P w = .ok (.enter gf args) w)
    {encs : α → Array Value} (hps : ∀ x, (encs x).size = ps.size) {next : β → α → β} {Y : β → α → Prop} {J : β → World → Prop} {S : β → Prop} {s0 : β}
    (hseq : Iter n P gf lb encs next Y J S s0) (hJ : OwnFrom w.heap.size J) (h0 : J s0 w) 
    (hround : ∀ (l : Nat) (s : β) (x : α) (W : World) (K : Act → World → Prop), Y s x → J s W →
      (∀ a₁ W1, KeepsOthers W W1 → (∀ W2 row, W1.grownBy W2 row → (∀ r, row = some r → w.heap.size ≤ r ∧ ∃ o : Obj, W1.heap[r]? = some o ∧ o.isCells = false) → body.wpIn (Fence.wide.inRound l) (n - 1 - 1) P (endPost fun W' => KeepsFrom w.heap.size W2 W' ∧ J (next s x) W') a₁ W2) → K a₁ W1) →
      assign.wpIn (Fence.wide.inRound l) (n - 1 - 1) P (Exit.then K (fun _ _ _ => False)) { tmps := (ps.zip (encs x)).foldl (fun t (p, v) => t.setIfInBounds p v) a.tmps, defers := [] } W)
    (hdone : ∀ (D : Nat) (s : β) (W : World), w.heap.size ≤ D → S s → J s W → W.heap[D]? = some (.deferred (some [])) → Q .normal { a with defers := { target := .collected D, args := #[] } :: a.defers } W) :
    (Code.rangeFunc g ps assign body).wpIn Fence.wide n P Q a w := by
  refine wpIn_rangeFunc fun fn hfn => ?_
  obtain ⟨rec, hrec⟩ : ∃ rec : LoopState → Loop, rec = fun st => { state := st, pending := none, fn, tmps := a.tmps, params := ps, assign, body, defers := w.heap.size } := ⟨_, rfl⟩
  obtain ⟨W1, hW1⟩ : ∃ W1, (w.alloc (.deferred (some []))).alloc (.loop (rec .ready)) = W1 := ⟨_, rfl⟩
  have z1 : W1.heap.size = w.heap.size + 2 := by rw [← hW1]; simp
  have loop1 : W1.heap[w.heap.size + 1]? = some (.loop (rec .ready)) := by
    have := World.alloc_heap_new (w.alloc (.deferred (some []))) (.loop (rec .ready))
    rw [World.size_alloc, hW1] at this; exact this
  have def1 : W1.heap[w.heap.size]? = some (.deferred (some [])) := by
    rw [← hW1, Below.heap_alloc _ _ _ (by simp)]; exact World.alloc_heap_new w _
  have j1 : J s0 W1 := by rw [← hW1]; exact hJ.alloc _ (hJ.alloc _ h0)
  refine ⟨w.heap.size + 1, [{ target := .collected w.heap.size, args := #[] }], W1, { target := .fn (.func gf) lb, args := #[.func (.yield (w.heap.size + 1)) #[] #[]] }, W1, gf,
    #[.func (.yield (w.heap.size + 1)) #[] #[]] ++ lb, W1, ?_, ?_, fun _ _ => trivial, ?_, (fun h => by cases h), ?_⟩
  · rw [← hW1, hrec]; exact run_enterLoop_outer _ _ _ _ _
  · simp only [resolve, hg]; simp [go_sem]
  · simp [invoke, go_sem, eg]
  · refine (hseq (w.heap.size + 1) (fun W => W.heap[w.heap.size + 1]? = some (.loop (rec .ready)) ∧ W.heap[w.heap.size]? = some (.deferred (some []))) W1
      (fun A B hR hk => ⟨hk.same _ _ hR.1 rfl, hk.same _ _ hR.2 rfl⟩) ⟨loop1, def1⟩ j1 ?_).mono ?_
    · rintro s x W hy0 ⟨hl, hd⟩ hj
      have hy := run_yield (P := P) (args := encs x) hl (by rw [hrec]; exact hps x)
      have hlt : w.heap.size + 1 < W.heap.size := (Array.getElem?_eq_some_iff.1 hl).1
      rw [hrec] at hy
      refine ⟨fn, _, assign, body, hy, roundIn_of_wpIn hfn (hround _ s x W _ hy0 hj (fun a₁ W1 hk1 hbd => ?_))⟩
      have hl := hk1.same _ _ hl rfl
      have hd := hk1.same _ _ hd rfl
      have hlt : w.heap.size + 1 < W1.heap.size := (Array.getElem?_eq_some_iff.1 hl).1
      refine ⟨_, run_beginRound hl (by rw [hrec]), ?_⟩
      refine wpIn_mono (hbd _ (some (w.heap.size + 1)) (grownBy_putObj' _ _ _) (fun r e => by cases e; exact ⟨by omega, _, hl, rfl⟩)) ?_
      intro e a3 W3 hp
      cases e with
      | normal =>
        obtain ⟨hk, hj3⟩ := hp
        have hl3 := hk.same _ _ (by omega) (World.putObj_heap_same hlt) rfl
        have hd3 := hk.same _ _ (Nat.le_refl _) ((World.putObj_heap_other (by omega)).trans hd) rfl
        have hr := run_endRound (P := P) none hl3
        refine ⟨_, _, hr, rfl, ⟨?_, (World.putObj_heap_other (by omega)).trans hd3⟩, hJ.putObj _ hj3 (by omega) hl3 rfl⟩
        rw [World.putObj_heap_same (Array.getElem?_eq_some_iff.1 hl3).1, hrec]; rfl
      | ret => exact hp.elim
      | exit id => exact hp.elim
      | goto t => exact hp.elim
      | panic ch => exact hp.elim
      | outgrown => exact hp.elim
    · rintro e W2 ⟨⟨v, rfl⟩, ⟨hl, hd⟩, s, hS, hj⟩
      refine ⟨none, _, ?_, hdone w.heap.size s _ (Nat.le_refl _) hS (hJ.putObj (.loop { rec .ready with state := .exhausted }) hj (by omega) hl rfl) ((World.putObj_heap_other (by omega)).trans hd)⟩
      have := run_endLoop (P := P) hl (by rw [hrec]; simp)
      rw [this]; rw [hrec]
end Go.Proofs.Ytidncnhhjfdifaa.Rng
