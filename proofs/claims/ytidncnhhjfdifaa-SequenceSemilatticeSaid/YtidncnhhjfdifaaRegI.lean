
/-
  A region that draws its order, walked by facts, within a fence.
-/
import Derived.Test.YtidncnhhjfdifaaReg
import Derived.OrdersIn
import Derived.TacticsInMore
namespace Go.Proofs.Ytidncnhhjfdifaa
open Go
set_option maxRecDepth 4000
set_option maxRecDepth 4000
section
variable {F : Fence} {nn : Nat} {P : Program} {Q : Exit → Act → World → Prop}

theorem wpAny_invI {ops : Array Oper} (I : Array Bool → Act → World → Prop)
    (hstep : ∀ (m : Array Bool) a w i, m.size = ops.size → I m a w → i ∈ Region.ready .any ops m → wpOpIn F nn P ops Q i (fun a' w' => I (m.setIfInBounds i true) a' w') a w)
    (hend : ∀ m a w, m.size = ops.size → I m a w → Region.ready .any ops m = [] → Q .normal a w) :
    ∀ fuel (m : Array Bool) a w, m.size = ops.size → m.toList.count false ≤ fuel → I m a w → wpAnyIn F nn P .any ops Q fuel m a w := by
  intro fuel
  have key : ∀ (m : Array Bool) i, m.size = ops.size → i ∈ Region.ready .any ops m → i < ops.size ∧ m.toList[i]? = some false := by
    intro m i hs hi
    unfold Region.ready at hi
    rw [List.mem_filter] at hi
    obtain ⟨h1, h2⟩ := hi
    have h1 := List.mem_range.1 h1
    simp only [Bool.and_eq_true, Bool.not_eq_true'] at h2
    refine ⟨h1, ?_⟩
    have h3 := h2.1
    have hlt : i < m.size := by omega
    simp only [Array.getD, hlt, dif_pos] at h3
    rw [Array.getElem?_toList, Array.getElem?_eq_getElem hlt]
    exact congrArg some h3
  induction fuel with
  | zero =>
    intro m a w hs hc hI
    have h0 : Region.ready .any ops m = [] := by
      cases hr : Region.ready .any ops m with
      | nil => rfl
      | cons i r =>
        obtain ⟨_, h2⟩ := key m i hs (by rw [hr]; exact List.mem_cons_self)
        have := List.count_pos_iff.2 (List.mem_of_getElem? h2)
        omega
    exact ⟨h0, hend m a w hs hI h0⟩
  | succ fuel ih =>
    intro m a w hs hc hI
    refine ⟨hend m a w hs hI, fun i hi => wpOpIn_mono (fun a' w' hI' => ih _ a' w' (by simpa using hs) ?_ hI') (hstep m a w i hs hI hi)⟩
    obtain ⟨h1, h2⟩ := key m i hs hi
    have hlt : i < m.toList.length := by rw [Array.length_toList, hs]; exact h1
    rw [Array.toList_setIfInBounds, List.count_set hlt]
    rw [List.getElem?_eq_getElem hlt] at h2
    have h2 := Option.some.inj h2
    have hp : 0 < m.toList.count false := List.count_pos_iff.2 (h2 ▸ List.getElem_mem hlt)
    rw [h2]
    simp only [beq_self_eq_true, if_true, show ((true == false) = true) = False by simp, if_false]
    omega

/-- what is owed for operation number i -/
def StepOKI (F : Fence) (nn : Nat) (P : Program) (Q : Exit → Act → World → Prop) (ops : Array Oper) (fr : (Nat → Value) → Act) (C : Bool → World → Prop) (d : Nat) (S : Nat → Value → World → Prop) (i : Nat) (o : Oper) : Prop :=
  (∀ x v, (fr x).put o.dst v = fr (upd x i v)) ∧
  ∀ (x : Nat → Value) (w : World) (b : Bool), (i = d → b = false) → C b w → (∀ e ∈ o.after.toList, Region.binds .any e = true → S e.on (x e.on) w) →
    ∀ K : Act → World → Prop, (∀ v w', C (b || i == d) w' → S i v w' → (∀ j u, j ≠ i → S j u w → S j u w') → K ((fr x).put o.dst v) w') →
      if Region.wanted o (yielded ops (fr x).tmps) = true then Oper.wpIn F nn P o (fr x) w K Q else (∀ f, o.about P w (fr x).eval = some f → F.fn f) ∧ K ((fr x).put o.dst undef) w

/-- what is owed for the last operation, behind all others -/
def TailOKI (F : Fence) (nn : Nat) (P : Program) (Q : Exit → Act → World → Prop) (ops : Array Oper) (fr : (Nat → Value) → Act) (C : Bool → World → Prop) (_d : Nat) (S : Nat → Value → World → Prop) (n : Nat) (o : Oper) : Prop :=
  ∀ (x : Nat → Value) (w : World), C true w → (∀ j, j < n → S j (x j) w) →
    ∀ K : Act → World → Prop, (∀ v w', Q .normal ((fr x).put o.dst v) w' → K ((fr x).put o.dst v) w') →
      if Region.wanted o (yielded ops (fr x).tmps) = true then Oper.wpIn F nn P o (fr x) w K Q else (∀ f, o.about P w (fr x).eval = some f → F.fn f) ∧ K ((fr x).put o.dst undef) w

def StepsOKI (F : Fence) (nn : Nat) (P : Program) (Q : Exit → Act → World → Prop) (ops : Array Oper) (fr : (Nat → Value) → Act) (C : Bool → World → Prop) (d : Nat) (S : Nat → Value → World → Prop) : Nat → List Oper → Prop
  | _, [] => True
  | n, [o] => TailOKI F nn P Q ops fr C d S n o
  | n, o :: o' :: r => StepOKI F nn P Q ops fr C d S n o ∧ StepsOKI F nn P Q ops fr C d S (n + 1) (o' :: r)

theorem steps_atI {ops : Array Oper} {fr : (Nat → Value) → Act} {C : Bool → World → Prop} {d : Nat} {S : Nat → Value → World → Prop} : ∀ (l : List Oper) (n : Nat), StepsOKI F nn P Q ops fr C d S n l →
    ∀ (i : Nat) (o : Oper), l[i]? = some o → (i + 1 < l.length → StepOKI F nn P Q ops fr C d S (n + i) o) ∧ (i + 1 = l.length → TailOKI F nn P Q ops fr C d S (n + i) o)
  | [], _, _, i, o, h => by simp at h
  | [o₀], n, hh, i, o, h => by
    cases i with
    | zero => simp at h; subst h; exact ⟨fun h => by simp at h, fun _ => hh⟩
    | succ i => simp at h
  | o₀ :: o₁ :: r, n, hh, i, o, h => by
    cases i with
    | zero => simp at h; subst h; exact ⟨fun _ => hh.1, fun h => by simp at h⟩
    | succ i =>
      have := steps_atI (o₁ :: r) (n + 1) hh.2 i o (by simpa using h)
      rw [show n + (i + 1) = n + 1 + i by omega]
      exact ⟨fun h => this.1 (by simpa using h), fun h => this.2 (by simpa using h)⟩

theorem region_factsI {id : Nat} {l : List Oper} {a : Act} {w : World} (hm : P.follows .mixedOrders = true) (hB : regB l.toArray = true) (fr : (Nat → Value) → Act) (x0 : Nat → Value) (hfr : a = fr x0)
    (C : Bool → World → Prop) (d : Nat) (S : Nat → Value → World → Prop) (hd : d + 1 < l.length) (h0 : C false w.drew) (hs : StepsOKI F nn P Q l.toArray fr C d S 0 l) (hne : l ≠ []) : (Code.region id l.toArray true).wpIn F nn P Q a w := by
  refine wpIn_region_any hm ?_
  change wpAnyIn _ _ _ _ _ _ _ _ _ w.drew
  simp only [regB, Bool.and_eq_true, List.all_eq_true] at hB
  obtain ⟨hB1, hB2⟩ := hB
  have hb : ∀ (i : Nat) (o : Oper), l.toArray[i]? = some o → ∀ e ∈ o.after, e.on < i := by
    intro i o ho e he
    have h1 := hB1 i (List.mem_range.2 (Array.getElem?_eq_some_iff.1 ho).1)
    rw [ho] at h1
    simp only [List.all_eq_true, decide_eq_true_eq] at h1
    exact h1 e (by simpa using he)
  have hlen : 0 < l.length := by cases l with | nil => exact absurd rfl hne | cons _ _ => simp
  refine wpAny_invI (fun m a' w' => (∀ (i : Nat) (o : Oper), l.toArray[i]? = some o → m.getD i false = true → ∀ e ∈ o.after, Region.binds .any e = true → m.getD e.on false = true) ∧
      (m.getD (l.length - 1) false = true → Q .normal a' w') ∧ (m.getD (l.length - 1) false = false → ∃ x, a' = fr x ∧ C (m.getD d false) w' ∧ ∀ j, m.getD j false = true → S j (x j) w')) ?_ ?_ _ _ _ _ (by simp) (by simp) ⟨?_, ?_, ?_⟩
  · rintro m a' w' i hms ⟨hcl, hT, hF⟩ hi
    unfold Region.ready at hi
    rw [List.mem_filter] at hi
    obtain ⟨h1, h2⟩ := hi
    have h1 := List.mem_range.1 h1
    have ho : l.toArray[i]? = some l.toArray[i] := Array.getElem?_eq_getElem h1
    simp only [ho, Option.map_some, Option.getD_some, Bool.and_eq_true, Bool.not_eq_true'] at h2
    obtain ⟨hno, hdep⟩ := h2
    have hlt : i < m.size := by omega
    have hdeps : ∀ e ∈ (l.toArray[i]).after, Region.binds .any e = true → m.getD e.on false = true := by
      intro e he hbd
      obtain ⟨j, hj, rfl⟩ := Array.getElem_of_mem he
      have := (Array.all_eq_true.1 hdep) j hj
      rw [hbd] at this
      simpa using this
    have hset : ∀ j, (m.setIfInBounds i true).getD j false = true ↔ j = i ∨ m.getD j false = true := by
      intro j
      simp only [Array.getD_eq_getD_getElem?, Array.getElem?_setIfInBounds]
      by_cases e : i = j
      · subst e; simp [hlt]
      · simp [e, Ne.symm e]
    have hcl' : ∀ (i' : Nat) (o : Oper), l.toArray[i']? = some o → (m.setIfInBounds i true).getD i' false = true → ∀ e ∈ o.after, Region.binds .any e = true → (m.setIfInBounds i true).getD e.on false = true := by
      intro i' o ho' hm' e he hbd
      rw [hset] at hm' ⊢
      rcases hm' with rfl | hm'
      · rw [ho] at ho'; cases ho'; exact .inr (hdeps e he hbd)
      · exact .inr (hcl i' o ho' hm' e he hbd)
    have hnl : m.getD (l.length - 1) false = false := by
      cases hl : m.getD (l.length - 1) false with
      | false => rfl
      | true =>
        have := reach_listed (ops := l.toArray) hcl _ _ i (by simpa using hB2 i (List.mem_range.2 h1)) (by simpa using hl)
        simp only [Array.getD, hlt, dif_pos] at hno this
        rw [hno] at this; cases this
    obtain ⟨x, rfl, hC, hS⟩ := hF hnl
    have ho2 : l[i]? = some l.toArray[i] := by rw [← List.getElem?_toArray]; exact ho
    have hst := steps_atI l 0 hs i _ ho2
    rw [Nat.zero_add] at hst
    have hil : i < l.length := by simpa using h1
    by_cases hlast : i + 1 = l.length
    · refine (show wpOpIn F nn P l.toArray Q i _ _ _ from ?_)
      have hall : ∀ j, j < i → S j (x j) w' := by
        intro j hj
        apply hS
        have hcl2 : ∀ (i' : Nat) (o : Oper), l.toArray[i']? = some o → (m.setIfInBounds i true).getD i' false = true → ∀ e ∈ o.after, Region.binds .any e = true → (m.setIfInBounds i true).getD e.on false = true := hcl'
        have hr := hB2 j (List.mem_range.2 (by simp; omega))
        rw [show (l.toArray.size - 1) = i by simp; omega] at hr
        have := reach_listed hcl2 _ _ j hr ((hset i).2 (.inl rfl))
        rcases (hset j).1 this with e | e
        · omega
        · exact e
      have hdm : m.getD d false = true := by
        have hr := hB2 d (List.mem_range.2 (by simp; omega))
        rw [show (l.toArray.size - 1) = i by simp; omega] at hr
        rcases (hset d).1 (reach_listed hcl' _ _ d hr ((hset i).2 (.inl rfl))) with e | e
        · omega
        · exact e
      rw [hdm] at hC
      have h := hst.2 hlast x w' hC hall
      refine wpOpIn_step ho fun K hK => h K fun v w'' hq => hK _ _ ?_
      refine ⟨hcl', fun _ => hq, fun hh => ?_⟩
      have := (hset (l.length - 1)).2 (.inl (by omega))
      rw [this] at hh; cases hh
    · have h := hst.1 (by omega)
      refine wpOpIn_step ho fun K hK => h.2 x w' _ (fun e => by subst e; simp only [Array.getD, hlt, dif_pos] at hno ⊢; exact hno) hC (fun e he hbd => hS _ (hdeps e (by simpa using he) hbd)) K fun v w'' hC' hSi hkeep => hK _ _ ?_
      refine ⟨hcl', fun hh => ?_, fun _ => ⟨_, h.1 x v, ?_, fun j hj => ?_⟩⟩
      · rcases (hset _).1 hh with e | e
        · omega
        · rw [hnl] at e; cases e
      · have : (m.setIfInBounds i true).getD d false = (m.getD d false || i == d) := by
          rw [Bool.eq_iff_iff, hset, Bool.or_eq_true, beq_iff_eq]
          constructor
          · rintro (e | e)
            · exact .inr e.symm
            · exact .inl e
          · rintro (e | e)
            · exact .inr e
            · exact .inl e.symm
        rw [this]; exact hC'
      · rcases (hset j).1 hj with rfl | e
        · simpa [upd] using hSi
        · by_cases ej : j = i
          · subst ej; simpa [upd] using hSi
          · simpa [upd, ej] using hkeep j _ ej (hS j e)
  · rintro m a' w' hms ⟨_, hT, _⟩ hr
    apply hT
    have := not_full hb hr (l.length - 1) (by simp; omega)
    simp only [Array.getD, show l.length - 1 < m.size by rw [hms]; simp; omega, dif_pos] at this ⊢
    exact this
  · intro i o _ h
    simp [Array.getD_eq_getD_getElem?, Array.getElem?_replicate] at h
    split at h <;> simp at h
  · intro h
    simp [Array.getD_eq_getD_getElem?, Array.getElem?_replicate] at h
    split at h <;> simp at h
  · intro _
    refine ⟨x0, hfr, by simpa [Array.getD_eq_getD_getElem?, Array.getElem?_replicate, show d < l.length by omega] using h0, fun j h => ?_⟩
    simp [Array.getD_eq_getD_getElem?, Array.getElem?_replicate] at h
    split at h <;> simp at h
theorem steps_consI {ops : Array Oper} {fr : (Nat → Value) → Act} {C : Bool → World → Prop} {d : Nat} {S : Nat → Value → World → Prop} {n : Nat} {o o' : Oper} {r : List Oper} (h : StepOKI F nn P Q ops fr C d S n o) (hr : StepsOKI F nn P Q ops fr C d S (n + 1) (o' :: r)) :
    StepsOKI F nn P Q ops fr C d S n (o :: o' :: r) := ⟨h, hr⟩
theorem steps_lastI {ops : Array Oper} {fr : (Nat → Value) → Act} {C : Bool → World → Prop} {d : Nat} {S : Nat → Value → World → Prop} {n : Nat} {o : Oper} (h : TailOKI F nn P Q ops fr C d S n o) : StepsOKI F nn P Q ops fr C d S n [o] := h
theorem step_mkI {ops : Array Oper} {fr : (Nat → Value) → Act} {C : Bool → World → Prop} {d : Nat} {S : Nat → Value → World → Prop} {i : Nat} {o : Oper} (ds : List Nat) (hg : o.guard = none) (hds : (o.after.toList.filter (Region.binds .any)).map (·.on) = ds)
    (hput : ∀ x v, (fr x).put o.dst v = fr (upd x i v))
    (h : ∀ (x : Nat → Value) (w : World) (b : Bool), (i = d → b = false) → C b w → (∀ d ∈ ds, S d (x d) w) → ∀ K : Act → World → Prop, (∀ v w', C (b || i == d) w' → S i v w' → (∀ j u, j ≠ i → S j u w → S j u w') → K ((fr x).put o.dst v) w') → Oper.wpIn F nn P o (fr x) w K Q) : StepOKI F nn P Q ops fr C d S i o := by
  refine ⟨hput, fun x w b hb hC hd K hK => ?_⟩
  rw [show Region.wanted o (yielded ops (fr x).tmps) = true by simp [Region.wanted, hg], if_pos rfl]
  refine h x w b hb hC (fun d hd' => ?_) K hK
  rw [← hds] at hd'
  obtain ⟨e, he, rfl⟩ := List.mem_map.1 hd'
  obtain ⟨h1, h2⟩ := List.mem_filter.1 he
  exact hd e h1 h2
theorem tail_mkI {ops : Array Oper} {fr : (Nat → Value) → Act} {C : Bool → World → Prop} {d : Nat} {S : Nat → Value → World → Prop} {n : Nat} {o : Oper} (hg : o.guard = none)
    (h : ∀ (x : Nat → Value) (w : World), C true w → (∀ d, d < n → S d (x d) w) → ∀ K : Act → World → Prop, (∀ v w', Q .normal ((fr x).put o.dst v) w' → K ((fr x).put o.dst v) w') → Oper.wpIn F nn P o (fr x) w K Q) : TailOKI F nn P Q ops fr C d S n o := by
  intro x w hC hd K hK
  rw [show Region.wanted o (yielded ops (fr x).tmps) = true by simp [Region.wanted, hg], if_pos rfl]
  exact h x w hC hd K hK
end
end Go.Proofs.Ytidncnhhjfdifaa
