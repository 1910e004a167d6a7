/-
  Plain mathematics of patches: faults, application, inversion (no program here).
-/
import Derived.Test.YtolpbeemeignaaaDfP
namespace Go.Proofs.Ytolpbeemeignaaa.Tp
open Go.RowKit
set_option maxRecDepth 4000

abbrev H := Dif.Hk ByteArray
/-- a hunk's end -/
def en (h : H) : Int := h.at' + h.old.length
/-- a hunk's fault, behind one that ends at prev -/
def hC (prev : Int) (h : H) : Int :=
  if h.at' < 0 ∨ 120 < h.at' then 3
  else if Lin.vC h.old ≠ 0 then Lin.vC h.old
  else if Lin.vC h.new ≠ 0 then Lin.vC h.new
  else if h.old.length + h.new.length = 0 ∨ h.at' ≤ prev then 5
  else if 120 < en h then 3
  else 0
def pf : List H → Nat → Int → Int × Int
  | [], _, _ => (0, 0)
  | h :: r, i, prev => if hC prev h = 0 then pf r (i + 1) (en h) else (hC prev h, (i : Int))
def pC (hs : List H) : Int := if 130 < hs.length then 2 else (pf hs 0 (-1)).1
def pI (hs : List H) : Int := if 130 < hs.length then -1 else (pf hs 0 (-1)).2
/-- a valid hunk -/
structure Hok (prev : Int) (h : H) : Prop where
  lo : 0 ≤ h.at'
  hi : h.at' ≤ 120
  old : Lin.vC h.old = 0
  new : Lin.vC h.new = 0
  some' : 0 < h.old.length + h.new.length
  gap : prev < h.at'
  end' : en h ≤ 120
theorem hC_zero {prev : Int} {h : H} : hC prev h = 0 ↔ Hok prev h := by
  unfold hC
  constructor
  · intro e
    split at e
    · cases e
    · rename_i h1
      split at e
      · rename_i h2; exact (h2 e).elim
      · rename_i h2
        split at e
        · rename_i h3; exact (h3 e).elim
        · rename_i h3
          split at e
          · cases e
          · rename_i h4
            split at e
            · cases e
            · rename_i h5
              exact ⟨by omega, by omega, Decidable.not_not.1 h2, Decidable.not_not.1 h3, by omega, by omega, by omega⟩
  · intro k
    have h1 := k.lo; have h2 := k.hi; have h5 := k.some'; have h6 := k.gap; have h7 := k.end'
    rw [if_neg (by omega), if_neg (by simp [k.old]), if_neg (by simp [k.new]), if_neg (by omega), if_neg (by omega)]
def Ch : Int → List H → Prop
  | _, [] => True
  | prev, h :: r => Hok prev h ∧ Ch (en h) r
theorem pf_zero (hs : List H) : ∀ (i : Nat) (prev : Int), (pf hs i prev).1 = 0 ↔ Ch prev hs := by
  induction hs with
  | nil => intro i prev; simp [pf, Ch]
  | cons h r ih =>
    intro i prev
    unfold pf Ch
    by_cases e : hC prev h = 0
    · rw [if_pos e, ih]
      exact ⟨fun k => ⟨hC_zero.1 e, k⟩, fun k => k.2⟩
    · rw [if_neg e]
      exact ⟨fun k => (e k).elim, fun k => (e (hC_zero.2 k.1)).elim⟩
theorem pf_zero2 (hs : List H) : ∀ (i : Nat) (prev : Int), Ch prev hs → (pf hs i prev).2 = 0 := by
  induction hs with
  | nil => intro i prev _; rfl
  | cons h r ih =>
    intro i prev k
    unfold pf
    rw [if_pos (hC_zero.2 k.1)]
    exact ih _ _ k.2
/-- a valid patch -/
structure Vp (hs : List H) : Prop where
  len : hs.length ≤ 130
  ch : Ch (-1) hs
theorem pC_zero {hs : List H} : pC hs = 0 ↔ Vp hs := by
  unfold pC
  by_cases h : 130 < hs.length
  · rw [if_pos h]
    exact ⟨fun e => (by cases e), fun k => (by have := k.len; omega)⟩
  · rw [if_neg h, pf_zero]
    exact ⟨fun k => ⟨by omega, k⟩, fun k => k.ch⟩
theorem pI_zero {hs : List H} (h : pC hs = 0) : pI hs = 0 := by
  have k := pC_zero.1 h
  unfold pI
  rw [if_neg (by have := k.len; omega)]
  exact pf_zero2 hs 0 (-1) k.ch

/-! application -/
/-- the deleted lines stand in the text -/
structure Has (t : List ByteArray) (h : H) : Prop where
  lo : 0 ≤ h.at'
  hi : en h ≤ t.length
  eq : mid t h.at'.toNat (en h).toNat = h.old
noncomputable def has (t : List ByteArray) (h : H) : Bool := @decide (Has t h) (Classical.propDecidable _)
theorem has_true {t : List ByteArray} {h : H} : has t h = true ↔ Has t h := by
  unfold has
  exact @decide_eq_true_iff _ (Classical.propDecidable _)
theorem has_false {t : List ByteArray} {h : H} : has t h = false ↔ ¬ Has t h := by
  rw [← has_true, Bool.not_eq_true]
/-- the first hunk that does not fit -/
noncomputable def cf (t : List ByteArray) : List H → Nat → Option Nat
  | [], _ => none
  | h :: r, i => if has t h = true then cf t r (i + 1) else some i
theorem cf_none (t : List ByteArray) (hs : List H) : ∀ i, cf t hs i = none ↔ ∀ h ∈ hs, Has t h := by
  induction hs with
  | nil => intro i; simp [cf]
  | cons h r ih =>
    intro i
    unfold cf
    by_cases e : has t h = true
    · rw [if_pos e, ih]
      exact ⟨fun k x hx => by rcases List.mem_cons.1 hx with rfl | hx; exact has_true.1 e; exact k x hx, fun k x hx => k x (List.mem_cons_of_mem _ hx)⟩
    · rw [if_neg e]
      exact ⟨fun k => (by cases k), fun k => (e (has_true.2 (k h (List.mem_cons_self ..)))).elim⟩
/-- the text behind a patch, from the line k of the old one on -/
def ap (t : List ByteArray) : Nat → List H → List ByteArray
  | k, [] => t.drop k
  | k, h :: r => mid t k h.at'.toNat ++ h.new ++ ap t (en h).toNat r
noncomputable def aC (hs : List H) (t : List ByteArray) : Int :=
  if pC hs ≠ 0 then pC hs else if Lin.vC t ≠ 0 then Lin.vC t else if cf t hs 0 ≠ none then 19 else if 120 < (ap t 0 hs).length then 10 else 0
noncomputable def aI (hs : List H) (t : List ByteArray) : Int :=
  if pC hs ≠ 0 then pI hs else if Lin.vC t ≠ 0 then -2 else if cf t hs 0 ≠ none then (((cf t hs 0).getD 0 : Nat) : Int) else if 120 < (ap t 0 hs).length then -1 else 0
noncomputable def aT (hs : List H) (t : List ByteArray) : List ByteArray := if aC hs t = 0 then ap t 0 hs else []
/-- a patch that applies -/
structure Ok (hs : List H) (t : List ByteArray) : Prop where
  vp : Vp hs
  vt : Lin.vC t = 0
  fit : ∀ h ∈ hs, Has t h
  len : (ap t 0 hs).length ≤ 120
theorem aC_zero {hs : List H} {t : List ByteArray} : aC hs t = 0 ↔ Ok hs t := by
  unfold aC
  constructor
  · intro e
    split at e
    · rename_i h; exact (h e).elim
    · rename_i h1
      split at e
      · rename_i h; exact (h e).elim
      · rename_i h2
        split at e
        · cases e
        · rename_i h3
          split at e
          · cases e
          · rename_i h4
            exact ⟨pC_zero.1 (Decidable.not_not.1 h1), Decidable.not_not.1 h2, (cf_none t hs 0).1 (Decidable.not_not.1 h3), by omega⟩
  · intro k
    rw [if_neg (by simp [pC_zero.2 k.vp]), if_neg (by simp [k.vt]), if_neg (by simp [(cf_none t hs 0).2 k.fit]), if_neg (by have := k.len; omega)]
theorem aI_zero {hs : List H} {t : List ByteArray} (h : aC hs t = 0) : aI hs t = 0 := by
  have k := aC_zero.1 h
  unfold aI
  rw [if_neg (by simp [pC_zero.2 k.vp]), if_neg (by simp [k.vt]), if_neg (by simp [(cf_none t hs 0).2 k.fit]), if_neg (by have := k.len; omega)]

/-! lists by places -/
theorem mid_all (l : List ByteArray) (k : Nat) : mid l k l.length = l.drop k := by
  unfold mid; rw [List.take_of_length_le (by rw [List.length_drop]; omega)]
theorem mid_join (l : List ByteArray) (i j k : Nat) (h1 : i ≤ j) (h2 : j ≤ k) : mid l i j ++ mid l j k = mid l i k := by
  unfold mid
  have e : k - i = (j - i) + (k - j) := by omega
  rw [e, List.take_add, List.drop_drop, show i + (j - i) = j by omega]
theorem mid_drop (l : List ByteArray) (i j : Nat) (h : i ≤ j) : mid l i j ++ l.drop j = l.drop i := by
  unfold mid
  have : l.drop j = (l.drop i).drop (j - i) := by rw [List.drop_drop, show i + (j - i) = j by omega]
  rw [this, List.take_append_drop]
theorem mid_pre (p l : List ByteArray) (i j : Nat) : mid (p ++ l) (p.length + i) (p.length + j) = mid l i j := by
  unfold mid
  rw [List.drop_append, List.drop_of_length_le (by omega), List.nil_append]
  congr 1
  · omega
  · congr 1; omega
theorem mid_pre0 (p l : List ByteArray) (j : Nat) : mid (p ++ l) p.length (p.length + j) = l.take j := by
  have := mid_pre p l 0 j
  rw [Nat.add_zero] at this
  rw [this]; unfold mid; rw [List.drop_zero, Nat.sub_zero]

/-! inversion -/
def iv : Int → List H → List H
  | _, [] => []
  | n, h :: r => ⟨h.at' + n, h.new, h.old⟩ :: iv (n + h.new.length - h.old.length) r
theorem iv_len (hs : List H) : ∀ n, (iv n hs).length = hs.length := by
  induction hs with
  | nil => intro n; rfl
  | cons h r ih => intro n; simp [iv, ih]
theorem iv_iv (hs : List H) : ∀ n m : Int, m = -n → iv m (iv n hs) = hs := by
  induction hs with
  | nil => intro n m _; rfl
  | cons h r ih =>
    intro n m e
    subst e
    simp only [iv]
    rw [ih _ _ (by omega)]
    congr 1
    cases h
    simp only [Dif.Hk.mk.injEq, and_true]; omega
noncomputable def vC' (hs : List H) : Int := if pC hs ≠ 0 then pC hs else if pC (iv 0 hs) ≠ 0 then 10 else 0
noncomputable def vI' (hs : List H) : Int := if pC hs ≠ 0 then pI hs else if pC (iv 0 hs) ≠ 0 then -1 else 0
noncomputable def vT (hs : List H) : List H := if vC' hs = 0 then iv 0 hs else []
theorem vC'_zero {hs : List H} : vC' hs = 0 ↔ Vp hs ∧ Vp (iv 0 hs) := by
  unfold vC'
  by_cases h1 : pC hs = 0
  · by_cases h2 : pC (iv 0 hs) = 0
    · rw [if_neg (by simp [h1]), if_neg (by simp [h2])]
      exact ⟨fun _ => ⟨pC_zero.1 h1, pC_zero.1 h2⟩, fun _ => rfl⟩
    · rw [if_neg (by simp [h1]), if_pos h2]
      exact ⟨fun e => (by cases e), fun k => (h2 (pC_zero.2 k.2)).elim⟩
  · rw [if_pos h1]
    exact ⟨fun e => (h1 e).elim, fun k => (h1 (pC_zero.2 k.1)).elim⟩

/-- the inverse leads back -/
theorem undo (t : List ByteArray) (hs : List H) : ∀ (prev : Int) (k : Nat) (pre : List ByteArray) (n : Int), Ch prev hs → (∀ h ∈ hs, Has t h) → ((k : Int) ≤ prev + 1) → (n = (pre.length : Int) - k) → k ≤ t.length →
    (∀ h ∈ iv n hs, Has (pre ++ ap t k hs) h) ∧ ap (pre ++ ap t k hs) pre.length (iv n hs) = t.drop k := by
  induction hs with
  | nil =>
    intro prev k pre n _ _ _ _ _
    refine ⟨fun h hh => by simp [iv] at hh, ?_⟩
    simp [iv, ap]
  | cons h r ih =>
    intro prev k pre n hch hfit hk hn hkt
    obtain ⟨hok, hr⟩ := hch
    have hh := hfit h (List.mem_cons_self ..)
    have g1 := hok.gap; have g2 := hok.lo; have g3 := hh.hi
    obtain ⟨a, ha⟩ : ∃ a : Nat, h.at' = a := ⟨h.at'.toNat, by omega⟩
    have hen : en h = ((a + h.old.length : Nat) : Int) := by unfold en; omega
    have ean : h.at'.toNat = a := by omega
    have een : (en h).toNat = a + h.old.length := by omega
    have hka : k ≤ a := by omega
    have hat : a + h.old.length ≤ t.length := by omega
    have eq := hh.eq
    rw [ean, een] at eq
    have lm : (mid t k a).length = a - k := mid_size t k a (by omega)
    have S : pre ++ ap t k (h :: r) = (pre ++ mid t k a ++ h.new) ++ ap t (a + h.old.length) r := by
      rw [ap, ean, een]; simp [List.append_assoc]
    have hpl : (pre ++ mid t k a ++ h.new).length = pre.length + (a - k) + h.new.length := by
      rw [List.length_append, List.length_append, lm]
    obtain ⟨q1, q2⟩ := ih (en h) (a + h.old.length) (pre ++ mid t k a ++ h.new) (n + h.new.length - h.old.length) hr (fun x hx => hfit x (List.mem_cons_of_mem _ hx)) (by omega) (by rw [hpl]; omega) hat
    rw [S]
    have hS1 : Has ((pre ++ mid t k a ++ h.new) ++ ap t (a + h.old.length) r) ⟨h.at' + n, h.new, h.old⟩ := by
      have ea : (h.at' + n).toNat = pre.length + (a - k) := by omega
      have ee : (en (⟨h.at' + n, h.new, h.old⟩ : H)).toNat = pre.length + (a - k) + h.new.length := by unfold en; simp only; omega
      refine ⟨by simp only; omega, ?_, ?_⟩
      · unfold en; simp only [List.length_append, lm]; omega
      · simp only [ea, ee]
        have := mid_pre0 (pre ++ mid t k a) (h.new ++ ap t (a + h.old.length) r) h.new.length
        rw [List.length_append, lm] at this
        rw [List.append_assoc, this, List.take_left']
        rfl
    refine ⟨fun x hx => ?_, ?_⟩
    · rw [iv] at hx
      rcases List.mem_cons.1 hx with rfl | hx
      · exact hS1
      · exact q1 x hx
    · rw [iv, ap]
      have ea : (h.at' + n).toNat = pre.length + (a - k) := by omega
      have ee : (en (⟨h.at' + n, h.new, h.old⟩ : H)).toNat = (pre ++ mid t k a ++ h.new).length := by rw [hpl]; unfold en; simp only; omega
      simp only [ea]
      rw [ee, q2]
      have e1 : mid ((pre ++ mid t k a ++ h.new) ++ ap t (a + h.old.length) r) pre.length (pre.length + (a - k)) = mid t k a := by
        rw [List.append_assoc, List.append_assoc, mid_pre0, ← lm, List.take_left']
        rfl
      have e2 : mid t k a ++ h.old = mid t k (a + h.old.length) := by rw [← mid_join t k a (a + h.old.length) hka (by omega), eq]
      rw [e1, e2, mid_drop t k _ (by omega)]
theorem undo0 {t : List ByteArray} {hs : List H} (h : Ok hs t) : (∀ x ∈ iv 0 hs, Has (ap t 0 hs) x) ∧ ap (ap t 0 hs) 0 (iv 0 hs) = t := by
  have := undo t hs (-1) 0 [] 0 h.vp.ch h.fit (by omega) (by simp) (Nat.zero_le _)
  simpa using this

/-- a line of the new text comes from the old one or from a hunk -/
theorem ap_mem (t : List ByteArray) (hs : List H) : ∀ (k : Nat), ∀ x ∈ ap t k hs, x ∈ t ∨ ∃ h ∈ hs, x ∈ h.new := by
  induction hs with
  | nil => intro k x hx; exact .inl (List.mem_of_mem_drop hx)
  | cons h r ih =>
    intro k x hx
    rw [ap, List.mem_append, List.mem_append] at hx
    rcases hx with (hx | hx) | hx
    · exact .inl (List.mem_of_mem_drop (List.mem_of_mem_take hx))
    · exact .inr ⟨h, List.mem_cons_self .., hx⟩
    · rcases ih _ x hx with h' | ⟨y, hy, h'⟩
      · exact .inl h'
      · exact .inr ⟨y, List.mem_cons_of_mem _ hy, h'⟩
theorem ch_new {prev : Int} {hs : List H} (h : Ch prev hs) : ∀ k ∈ hs, Lin.vC k.new = 0 ∧ Lin.vC k.old = 0 := by
  induction hs generalizing prev with
  | nil => intro k hk; cases hk
  | cons x r ih =>
    intro k hk
    rcases List.mem_cons.1 hk with rfl | hk
    · exact ⟨h.1.new, h.1.old⟩
    · exact ih h.2 k hk
/-- the new text is a text -/
theorem ap_txt {t : List ByteArray} {hs : List H} (h : Ok hs t) : Lin.vC (ap t 0 hs) = 0 := by
  refine Lin.vC_txt ⟨h.len, fun s hs' => ?_⟩
  rcases ap_mem t hs 0 s hs' with h1 | ⟨k, hk, h1⟩
  · exact (Lin.vC_zero h.vt).2 s h1
  · exact (Lin.vC_zero (ch_new h.vp.ch k hk).1).2 s h1
/-- the inverse of a patch that applies, applies to what it made, and gives the text back -/
theorem ok_undo {t : List ByteArray} {hs : List H} (h : Ok hs t) (hv : Vp (iv 0 hs)) : Ok (iv 0 hs) (ap t 0 hs) ∧ ap (ap t 0 hs) 0 (iv 0 hs) = t := by
  obtain ⟨h1, h2⟩ := undo0 h
  exact ⟨⟨hv, ap_txt h, h1, by rw [h2]; exact len_okP h.vt⟩, h2⟩
where
  len_okP {l : List ByteArray} (h : Lin.vC l = 0) : l.length ≤ 120 := (Lin.vC_zero h).1
end Go.Proofs.Ytolpbeemeignaaa.Tp
