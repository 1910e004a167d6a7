
/-
  A region that draws its order, walked operation by operation, each once, from whatever has come before it: what each operation's slot holds is a fact of its own.
-/
import Derived.Orders
import Derived.RegionTactic
namespace Go.Proofs.Ytidncnhhjfdifaa
open Go
set_option maxRecDepth 4000
set_option maxRecDepth 4000
section
variable {P : Program} {Q : Exit → Act → World → Prop}

theorem not_full {ops : Array Oper} {m : Array Bool} (hb : ∀ (i : Nat) (o : Oper), ops[i]? = some o → ∀ e ∈ o.after, e.on < i) (hr : Region.ready .any ops m = []) : ∀ i, i < ops.size → m.getD i true = true := by
  intro i
  induction i using Nat.strongRecOn with
  | _ i ih =>
    intro hi
    cases hm : m.getD i true with
    | true => rfl
    | false =>
      have ho : ops[i]? = some ops[i] := Array.getElem?_eq_getElem hi
      have : i ∈ Region.ready .any ops m := by
        unfold Region.ready
        rw [List.mem_filter]
        refine ⟨List.mem_range.2 hi, ?_⟩
        simp only [hm, Bool.not_false, Bool.true_and, ho, Option.map_some, Option.getD_some, Array.all_eq_true]
        intro j hj
        have hlt := hb i _ ho _ (Array.getElem_mem hj)
        have h1 := ih _ hlt (by omega)
        have h2 : (ops[i].after[j]).on < m.size := by
          apply Decidable.byContradiction
          intro hc
          have h3 : m.getD i true = true := by simp only [Array.getD]; rw [dif_neg (by omega)]
          rw [h3] at hm; cases hm
        have h4 : m.getD (ops[i].after[j]).on false = true := by
          rw [Array.getD_eq_getD_getElem?, Array.getElem?_eq_getElem h2] at h1 ⊢
          exact h1
        rw [h4, Bool.or_true]
      rw [hr] at this
      cases this

theorem wpAny_inv {ops : Array Oper} (I : Array Bool → Act → World → Prop)
    (hstep : ∀ (m : Array Bool) a w i, m.size = ops.size → I m a w → i ∈ Region.ready .any ops m → wpOp P ops Q i (fun a' w' => I (m.setIfInBounds i true) a' w') a w)
    (hend : ∀ m a w, m.size = ops.size → I m a w → Region.ready .any ops m = [] → Q .normal a w) :
    ∀ fuel (m : Array Bool) a w, m.size = ops.size → m.toList.count false ≤ fuel → I m a w → wpAny P .any ops Q fuel m a w := by
  intro fuel
  have key : ∀ (m : Array Bool) i, m.size = ops.size → i ∈ Region.ready .any ops m → i < ops.size ∧ m.toList[i]? = some false := by
    intro m i hs hi
    unfold Region.ready at hi
    rw [List.mem_filter] at hi
    obtain ⟨h1, h2⟩ := hi
    have h1 := List.mem_range.1 h1
    simp only [Bool.and_eq_true, Bool.not_eq_true'] at h2
    refine ⟨h1, ?_⟩
    have h3 := h2.1
    have hlt : i < m.size := by omega
    simp only [Array.getD, hlt, dif_pos] at h3
    rw [Array.getElem?_toList, Array.getElem?_eq_getElem hlt]
    exact congrArg some h3
  induction fuel with
  | zero =>
    intro m a w hs hc hI
    have h0 : Region.ready .any ops m = [] := by
      cases hr : Region.ready .any ops m with
      | nil => rfl
      | cons i r =>
        obtain ⟨_, h2⟩ := key m i hs (by rw [hr]; exact List.mem_cons_self)
        have := List.count_pos_iff.2 (List.mem_of_getElem? h2)
        omega
    exact ⟨h0, hend m a w hs hI h0⟩
  | succ fuel ih =>
    intro m a w hs hc hI
    refine ⟨hend m a w hs hI, fun i hi => wpOp_mono (fun a' w' hI' => ih _ a' w' (by simpa using hs) ?_ hI') (hstep m a w i hs hI hi)⟩
    obtain ⟨h1, h2⟩ := key m i hs hi
    have hlt : i < m.toList.length := by rw [Array.length_toList, hs]; exact h1
    rw [Array.toList_setIfInBounds, List.count_set hlt]
    rw [List.getElem?_eq_getElem hlt] at h2
    have h2 := Option.some.inj h2
    have hp : 0 < m.toList.count false := List.count_pos_iff.2 (h2 ▸ List.getElem_mem hlt)
    rw [h2]
    simp only [beq_self_eq_true, if_true, show ((true == false) = true) = False by simp, if_false]
    omega

/-- the slots of a region's operations, one of them turned -/
def upd (x : Nat → Value) (i : Nat) (v : Value) : Nat → Value := fun j => if j = i then v else x j

/-- what is owed for operation number i -/
def StepOK (P : Program) (Q : Exit → Act → World → Prop) (ops : Array Oper) (fr : (Nat → Value) → Act) (C : World → Prop) (S : Nat → Value → World → Prop) (i : Nat) (o : Oper) : Prop :=
  (∀ x v, (fr x).put o.dst v = fr (upd x i v)) ∧
  ∀ (x : Nat → Value) (w : World), C w → (∀ e ∈ o.after.toList, Region.binds .any e = true → S e.on (x e.on) w) →
    ∀ K : Act → World → Prop, (∀ v w', C w' → S i v w' → (∀ j u, j ≠ i → S j u w → S j u w') → K ((fr x).put o.dst v) w') →
      if Region.wanted o (yielded ops (fr x).tmps) = true then Oper.wp P o (fr x) w K Q else K ((fr x).put o.dst undef) w

/-- what is owed for the last operation, behind all others -/
def TailOK (P : Program) (Q : Exit → Act → World → Prop) (ops : Array Oper) (fr : (Nat → Value) → Act) (C : World → Prop) (S : Nat → Value → World → Prop) (n : Nat) (o : Oper) : Prop :=
  ∀ (x : Nat → Value) (w : World), C w → (∀ j, j < n → S j (x j) w) →
    ∀ K : Act → World → Prop, (∀ v w', Q .normal ((fr x).put o.dst v) w' → K ((fr x).put o.dst v) w') →
      if Region.wanted o (yielded ops (fr x).tmps) = true then Oper.wp P o (fr x) w K Q else K ((fr x).put o.dst undef) w

def StepsOK (P : Program) (Q : Exit → Act → World → Prop) (ops : Array Oper) (fr : (Nat → Value) → Act) (C : World → Prop) (S : Nat → Value → World → Prop) : Nat → List Oper → Prop
  | _, [] => True
  | n, [o] => TailOK P Q ops fr C S n o
  | n, o :: o' :: r => StepOK P Q ops fr C S n o ∧ StepsOK P Q ops fr C S (n + 1) (o' :: r)

/-- does operation t stand behind operation i? -/
def reach (ops : Array Oper) : Nat → Nat → Nat → Bool
  | 0, t, i => t == i
  | f + 1, t, i => t == i || (match ops[t]? with | some o => o.after.toList.any fun e => Region.binds .any e && reach ops f e.on i | none => false)

def regB (ops : Array Oper) : Bool :=
  (List.range ops.size).all (fun i => (match ops[i]? with | some o => o.after.toList.all fun e => e.on < i | none => false)) &&
  (List.range ops.size).all (fun i => reach ops ops.size (ops.size - 1) i)

theorem reach_listed {ops : Array Oper} {m : Array Bool} (hc : ∀ (i : Nat) (o : Oper), ops[i]? = some o → m.getD i false = true → ∀ e ∈ o.after, Region.binds .any e = true → m.getD e.on false = true) :
    ∀ f t i, reach ops f t i = true → m.getD t false = true → m.getD i false = true := by
  intro f
  induction f with
  | zero => intro t i h ht; simp only [reach, beq_iff_eq] at h; exact h ▸ ht
  | succ f ih =>
    intro t i h ht
    simp only [reach, Bool.or_eq_true, beq_iff_eq] at h
    rcases h with h | h
    · exact h ▸ ht
    · cases ho : ops[t]? with
      | none => rw [ho] at h; cases h
      | some o =>
        rw [ho] at h
        simp only [List.any_eq_true, Bool.and_eq_true] at h
        obtain ⟨e, he, hb, hr⟩ := h
        exact ih _ _ hr (hc t o ho ht e (by simpa using he) hb)

theorem steps_at {ops : Array Oper} {fr : (Nat → Value) → Act} {C : World → Prop} {S : Nat → Value → World → Prop} : ∀ (l : List Oper) (n : Nat), StepsOK P Q ops fr C S n l →
    ∀ (i : Nat) (o : Oper), l[i]? = some o → (i + 1 < l.length → StepOK P Q ops fr C S (n + i) o) ∧ (i + 1 = l.length → TailOK P Q ops fr C S (n + i) o)
  | [], _, _, i, o, h => by simp at h
  | [o₀], n, hh, i, o, h => by
    cases i with
    | zero => simp at h; subst h; exact ⟨fun h => by simp at h, fun _ => hh⟩
    | succ i => simp at h
  | o₀ :: o₁ :: r, n, hh, i, o, h => by
    cases i with
    | zero => simp at h; subst h; exact ⟨fun _ => hh.1, fun h => by simp at h⟩
    | succ i =>
      have := steps_at (o₁ :: r) (n + 1) hh.2 i o (by simpa using h)
      rw [show n + (i + 1) = n + 1 + i by omega]
      exact ⟨fun h => this.1 (by simpa using h), fun h => this.2 (by simpa using h)⟩

theorem region_facts {id : Nat} {l : List Oper} {a : Act} {w : World} (hm : P.follows .mixedOrders = true) (hB : regB l.toArray = true) (fr : (Nat → Value) → Act) (x0 : Nat → Value) (hfr : a = fr x0)
    (C : World → Prop) (S : Nat → Value → World → Prop) (h0 : C w.drew) (hs : StepsOK P Q l.toArray fr C S 0 l) (hne : l ≠ []) : (Code.region id l.toArray true).wp P Q a w := by
  refine wp_region_any hm ?_
  change wpAny _ _ _ _ _ _ _ w.drew
  simp only [regB, Bool.and_eq_true, List.all_eq_true] at hB
  obtain ⟨hB1, hB2⟩ := hB
  have hb : ∀ (i : Nat) (o : Oper), l.toArray[i]? = some o → ∀ e ∈ o.after, e.on < i := by
    intro i o ho e he
    have h1 := hB1 i (List.mem_range.2 (Array.getElem?_eq_some_iff.1 ho).1)
    rw [ho] at h1
    simp only [List.all_eq_true, decide_eq_true_eq] at h1
    exact h1 e (by simpa using he)
  have hlen : 0 < l.length := by cases l with | nil => exact absurd rfl hne | cons _ _ => simp
  refine wpAny_inv (fun m a' w' => (∀ (i : Nat) (o : Oper), l.toArray[i]? = some o → m.getD i false = true → ∀ e ∈ o.after, Region.binds .any e = true → m.getD e.on false = true) ∧
      (m.getD (l.length - 1) false = true → Q .normal a' w') ∧ (m.getD (l.length - 1) false = false → ∃ x, a' = fr x ∧ C w' ∧ ∀ j, m.getD j false = true → S j (x j) w')) ?_ ?_ _ _ _ _ (by simp) (by simp) ⟨?_, ?_, ?_⟩
  · rintro m a' w' i hms ⟨hcl, hT, hF⟩ hi
    unfold Region.ready at hi
    rw [List.mem_filter] at hi
    obtain ⟨h1, h2⟩ := hi
    have h1 := List.mem_range.1 h1
    have ho : l.toArray[i]? = some l.toArray[i] := Array.getElem?_eq_getElem h1
    simp only [ho, Option.map_some, Option.getD_some, Bool.and_eq_true, Bool.not_eq_true'] at h2
    obtain ⟨hno, hdep⟩ := h2
    have hlt : i < m.size := by omega
    have hdeps : ∀ e ∈ (l.toArray[i]).after, Region.binds .any e = true → m.getD e.on false = true := by
      intro e he hbd
      obtain ⟨j, hj, rfl⟩ := Array.getElem_of_mem he
      have := (Array.all_eq_true.1 hdep) j hj
      rw [hbd] at this
      simpa using this
    have hset : ∀ j, (m.setIfInBounds i true).getD j false = true ↔ j = i ∨ m.getD j false = true := by
      intro j
      simp only [Array.getD_eq_getD_getElem?, Array.getElem?_setIfInBounds]
      by_cases e : i = j
      · subst e; simp [hlt]
      · simp [e, Ne.symm e]
    have hcl' : ∀ (i' : Nat) (o : Oper), l.toArray[i']? = some o → (m.setIfInBounds i true).getD i' false = true → ∀ e ∈ o.after, Region.binds .any e = true → (m.setIfInBounds i true).getD e.on false = true := by
      intro i' o ho' hm' e he hbd
      rw [hset] at hm' ⊢
      rcases hm' with rfl | hm'
      · rw [ho] at ho'; cases ho'; exact .inr (hdeps e he hbd)
      · exact .inr (hcl i' o ho' hm' e he hbd)
    have hnl : m.getD (l.length - 1) false = false := by
      cases hl : m.getD (l.length - 1) false with
      | false => rfl
      | true =>
        have := reach_listed (ops := l.toArray) hcl _ _ i (by simpa using hB2 i (List.mem_range.2 h1)) (by simpa using hl)
        simp only [Array.getD, hlt, dif_pos] at hno this
        rw [hno] at this; cases this
    obtain ⟨x, rfl, hC, hS⟩ := hF hnl
    have ho2 : l[i]? = some l.toArray[i] := by rw [← List.getElem?_toArray]; exact ho
    have hst := steps_at l 0 hs i _ ho2
    rw [Nat.zero_add] at hst
    have hil : i < l.length := by simpa using h1
    by_cases hlast : i + 1 = l.length
    · refine (show wpOp P l.toArray Q i _ _ _ from ?_)
      have hall : ∀ j, j < i → S j (x j) w' := by
        intro j hj
        apply hS
        have hcl2 : ∀ (i' : Nat) (o : Oper), l.toArray[i']? = some o → (m.setIfInBounds i true).getD i' false = true → ∀ e ∈ o.after, Region.binds .any e = true → (m.setIfInBounds i true).getD e.on false = true := hcl'
        have hr := hB2 j (List.mem_range.2 (by simp; omega))
        rw [show (l.toArray.size - 1) = i by simp; omega] at hr
        have := reach_listed hcl2 _ _ j hr ((hset i).2 (.inl rfl))
        rcases (hset j).1 this with e | e
        · omega
        · exact e
      have h := hst.2 hlast x w' hC hall
      refine wpOp_step ho fun K hK => h K fun v w'' hq => hK _ _ ?_
      refine ⟨hcl', fun _ => hq, fun hh => ?_⟩
      have := (hset (l.length - 1)).2 (.inl (by omega))
      rw [this] at hh; cases hh
    · have h := hst.1 (by omega)
      refine wpOp_step ho fun K hK => h.2 x w' hC (fun e he hbd => hS _ (hdeps e (by simpa using he) hbd)) K fun v w'' hC' hSi hkeep => hK _ _ ?_
      refine ⟨hcl', fun hh => ?_, fun _ => ⟨_, h.1 x v, hC', fun j hj => ?_⟩⟩
      · rcases (hset _).1 hh with e | e
        · omega
        · rw [hnl] at e; cases e
      · rcases (hset j).1 hj with rfl | e
        · simpa [upd] using hSi
        · by_cases ej : j = i
          · subst ej; simpa [upd] using hSi
          · simpa [upd, ej] using hkeep j _ ej (hS j e)
  · rintro m a' w' hms ⟨_, hT, _⟩ hr
    apply hT
    have := not_full hb hr (l.length - 1) (by simp; omega)
    simp only [Array.getD, show l.length - 1 < m.size by rw [hms]; simp; omega, dif_pos] at this ⊢
    exact this
  · intro i o _ h
    simp [Array.getD_eq_getD_getElem?, Array.getElem?_replicate] at h
    split at h <;> simp at h
  · intro h
    simp [Array.getD_eq_getD_getElem?, Array.getElem?_replicate] at h
    split at h <;> simp at h
  · intro _
    refine ⟨x0, hfr, h0, fun j h => ?_⟩
    simp [Array.getD_eq_getD_getElem?, Array.getElem?_replicate] at h
    split at h <;> simp at h
theorem steps_cons {ops : Array Oper} {fr : (Nat → Value) → Act} {C : World → Prop} {S : Nat → Value → World → Prop} {n : Nat} {o o' : Oper} {r : List Oper} (h : StepOK P Q ops fr C S n o) (hr : StepsOK P Q ops fr C S (n + 1) (o' :: r)) :
    StepsOK P Q ops fr C S n (o :: o' :: r) := ⟨h, hr⟩
theorem steps_last {ops : Array Oper} {fr : (Nat → Value) → Act} {C : World → Prop} {S : Nat → Value → World → Prop} {n : Nat} {o : Oper} (h : TailOK P Q ops fr C S n o) : StepsOK P Q ops fr C S n [o] := h
theorem step_mk {ops : Array Oper} {fr : (Nat → Value) → Act} {C : World → Prop} {S : Nat → Value → World → Prop} {i : Nat} {o : Oper} (ds : List Nat) (hg : o.guard = none) (hds : (o.after.toList.filter (Region.binds .any)).map (·.on) = ds)
    (hput : ∀ x v, (fr x).put o.dst v = fr (upd x i v))
    (h : ∀ (x : Nat → Value) (w : World), C w → (∀ d ∈ ds, S d (x d) w) → ∀ K : Act → World → Prop, (∀ v w', C w' → S i v w' → (∀ j u, j ≠ i → S j u w → S j u w') → K ((fr x).put o.dst v) w') → Oper.wp P o (fr x) w K Q) : StepOK P Q ops fr C S i o := by
  refine ⟨hput, fun x w hC hd K hK => ?_⟩
  rw [show Region.wanted o (yielded ops (fr x).tmps) = true by simp [Region.wanted, hg], if_pos rfl]
  refine h x w hC (fun d hd' => ?_) K hK
  rw [← hds] at hd'
  obtain ⟨e, he, rfl⟩ := List.mem_map.1 hd'
  obtain ⟨h1, h2⟩ := List.mem_filter.1 he
  exact hd e h1 h2
theorem tail_mk {ops : Array Oper} {fr : (Nat → Value) → Act} {C : World → Prop} {S : Nat → Value → World → Prop} {n : Nat} {o : Oper} (hg : o.guard = none)
    (h : ∀ (x : Nat → Value) (w : World), C w → (∀ d, d < n → S d (x d) w) → ∀ K : Act → World → Prop, (∀ v w', Q .normal ((fr x).put o.dst v) w' → K ((fr x).put o.dst v) w') → Oper.wp P o (fr x) w K Q) : TailOK P Q ops fr C S n o := by
  intro x w hC hd K hK
  rw [show Region.wanted o (yielded ops (fr x).tmps) = true by simp [Region.wanted, hg], if_pos rfl]
  exact h x w hC hd K hK
end
end Go.Proofs.Ytidncnhhjfdifaa
