
/-
  Plain mathematics of patches: faults, application, inversion (no program here).
  Plain mathematics of patches and scripts: lengths, costs, the script of two texts applies (no program here).
-/
import Derived.Test.YtcheggdfcdokiaaDoorDfP
import Derived.Test.YtcheggdfcdokiaaDoorDfC
import Derived.Test.YtcheggdfcdokiaaDoorDfD
namespace Go.Proofs.YtcheggdfcdokiaaDoor.Tp
open Go.RowKit
set_option maxRecDepth 4000

abbrev H := Dif.Hk ByteArray
/-- a hunk's end -/
def en (h : H) : Int := h.at' + h.old.length
/-- a hunk's fault, behind one that ends at prev -/
def hC (prev : Int) (h : H) : Int :=
  if h.at' < 0 ∨ 120 < h.at' then 3
  else if Lin.vC h.old ≠ 0 then Lin.vC h.old
  else if Lin.vC h.new ≠ 0 then Lin.vC h.new
  else if h.old.length + h.new.length = 0 ∨ h.at' ≤ prev then 5
  else if 120 < en h then 3
  else 0
def pf : List H → Nat → Int → Int × Int
  | [], _, _ => (0, 0)
  | h :: r, i, prev => if hC prev h = 0 then pf r (i + 1) (en h) else (hC prev h, (i : Int))
def pC (hs : List H) : Int := if 130 < hs.length then 2 else (pf hs 0 (-1)).1
def pI (hs : List H) : Int := if 130 < hs.length then -1 else (pf hs 0 (-1)).2
/-- a valid hunk -/
structure Hok (prev : Int) (h : H) : Prop where
  lo : 0 ≤ h.at'
  hi : h.at' ≤ 120
  old : Lin.vC h.old = 0
  new : Lin.vC h.new = 0
  some' : 0 < h.old.length + h.new.length
  gap : prev < h.at'
  end' : en h ≤ 120
theorem hC_zero {prev : Int} {h : H} : hC prev h = 0 ↔ Hok prev h := by
  unfold hC
  constructor
  · intro e
    split at e
    · cases e
    · rename_i h1
      split at e
      · rename_i h2; exact (h2 e).elim
      · rename_i h2
        split at e
        · rename_i h3; exact (h3 e).elim
        · rename_i h3
          split at e
          · cases e
          · rename_i h4
            split at e
            · cases e
            · rename_i h5
              exact ⟨by omega, by omega, Decidable.not_not.1 h2, Decidable.not_not.1 h3, by omega, by omega, by omega⟩
  · intro k
    have h1 := k.lo; have h2 := k.hi; have h5 := k.some'; have h6 := k.gap; have h7 := k.end'
    rw [if_neg (by omega), if_neg (by simp [k.old]), if_neg (by simp [k.new]), if_neg (by omega), if_neg (by omega)]
def Ch : Int → List H → Prop
  | _, [] => True
  | prev, h :: r => Hok prev h ∧ Ch (en h) r
theorem pf_zero (hs : List H) : ∀ (i : Nat) (prev : Int), (pf hs i prev).1 = 0 ↔ Ch prev hs := by
  induction hs with
  | nil => intro i prev; simp [pf, Ch]
  | cons h r ih =>
    intro i prev
    unfold pf Ch
    by_cases e : hC prev h = 0
    · rw [if_pos e, ih]
      exact ⟨fun k => ⟨hC_zero.1 e, k⟩, fun k => k.2⟩
    · rw [if_neg e]
      exact ⟨fun k => (e k).elim, fun k => (e (hC_zero.2 k.1)).elim⟩
theorem pf_zero2 (hs : List H) : ∀ (i : Nat) (prev : Int), Ch prev hs → (pf hs i prev).2 = 0 := by
  induction hs with
  | nil => intro i prev _; rfl
  | cons h r ih =>
    intro i prev k
    unfold pf
    rw [if_pos (hC_zero.2 k.1)]
    exact ih _ _ k.2
/-- a valid patch -/
structure Vp (hs : List H) : Prop where
  len : hs.length ≤ 130
  ch : Ch (-1) hs
theorem pC_zero {hs : List H} : pC hs = 0 ↔ Vp hs := by
  unfold pC
  by_cases h : 130 < hs.length
  · rw [if_pos h]
    exact ⟨fun e => (by cases e), fun k => (by have := k.len; omega)⟩
  · rw [if_neg h, pf_zero]
    exact ⟨fun k => ⟨by omega, k⟩, fun k => k.ch⟩
theorem pI_zero {hs : List H} (h : pC hs = 0) : pI hs = 0 := by
  have k := pC_zero.1 h
  unfold pI
  rw [if_neg (by have := k.len; omega)]
  exact pf_zero2 hs 0 (-1) k.ch

/-! application -/
/-- the deleted lines stand in the text -/
structure Has (t : List ByteArray) (h : H) : Prop where
  lo : 0 ≤ h.at'
  hi : en h ≤ t.length
  eq : mid t h.at'.toNat (en h).toNat = h.old
noncomputable def has (t : List ByteArray) (h : H) : Bool := @decide (Has t h) (Classical.propDecidable _)
theorem has_true {t : List ByteArray} {h : H} : has t h = true ↔ Has t h := by
  unfold has
  exact @decide_eq_true_iff _ (Classical.propDecidable _)
theorem has_false {t : List ByteArray} {h : H} : has t h = false ↔ ¬ Has t h := by
  rw [← has_true, Bool.not_eq_true]
/-- the first hunk that does not fit -/
noncomputable def cf (t : List ByteArray) : List H → Nat → Option Nat
  | [], _ => none
  | h :: r, i => if has t h = true then cf t r (i + 1) else some i
theorem cf_none (t : List ByteArray) (hs : List H) : ∀ i, cf t hs i = none ↔ ∀ h ∈ hs, Has t h := by
  induction hs with
  | nil => intro i; simp [cf]
  | cons h r ih =>
    intro i
    unfold cf
    by_cases e : has t h = true
    · rw [if_pos e, ih]
      exact ⟨fun k x hx => by rcases List.mem_cons.1 hx with rfl | hx; exact has_true.1 e; exact k x hx, fun k x hx => k x (List.mem_cons_of_mem _ hx)⟩
    · rw [if_neg e]
      exact ⟨fun k => (by cases k), fun k => (e (has_true.2 (k h (List.mem_cons_self ..)))).elim⟩
/-- the text behind a patch, from the line k of the old one on -/
def ap (t : List ByteArray) : Nat → List H → List ByteArray
  | k, [] => t.drop k
  | k, h :: r => mid t k h.at'.toNat ++ h.new ++ ap t (en h).toNat r
noncomputable def aC (hs : List H) (t : List ByteArray) : Int :=
  if pC hs ≠ 0 then pC hs else if Lin.vC t ≠ 0 then Lin.vC t else if cf t hs 0 ≠ none then 19 else if 120 < (ap t 0 hs).length then 10 else 0
noncomputable def aI (hs : List H) (t : List ByteArray) : Int :=
  if pC hs ≠ 0 then pI hs else if Lin.vC t ≠ 0 then -2 else if cf t hs 0 ≠ none then (((cf t hs 0).getD 0 : Nat) : Int) else if 120 < (ap t 0 hs).length then -1 else 0
noncomputable def aT (hs : List H) (t : List ByteArray) : List ByteArray := if aC hs t = 0 then ap t 0 hs else []
/-- a patch that applies -/
structure Ok (hs : List H) (t : List ByteArray) : Prop where
  vp : Vp hs
  vt : Lin.vC t = 0
  fit : ∀ h ∈ hs, Has t h
  len : (ap t 0 hs).length ≤ 120
theorem aC_zero {hs : List H} {t : List ByteArray} : aC hs t = 0 ↔ Ok hs t := by
  unfold aC
  constructor
  · intro e
    split at e
    · rename_i h; exact (h e).elim
    · rename_i h1
      split at e
      · rename_i h; exact (h e).elim
      · rename_i h2
        split at e
        · cases e
        · rename_i h3
          split at e
          · cases e
          · rename_i h4
            exact ⟨pC_zero.1 (Decidable.not_not.1 h1), Decidable.not_not.1 h2, (cf_none t hs 0).1 (Decidable.not_not.1 h3), by omega⟩
  · intro k
    rw [if_neg (by simp [pC_zero.2 k.vp]), if_neg (by simp [k.vt]), if_neg (by simp [(cf_none t hs 0).2 k.fit]), if_neg (by have := k.len; omega)]
theorem aI_zero {hs : List H} {t : List ByteArray} (h : aC hs t = 0) : aI hs t = 0 := by
  have k := aC_zero.1 h
  unfold aI
  rw [if_neg (by simp [pC_zero.2 k.vp]), if_neg (by simp [k.vt]), if_neg (by simp [(cf_none t hs 0).2 k.fit]), if_neg (by have := k.len; omega)]

/-! lists by places -/
theorem mid_all (l : List ByteArray) (k : Nat) : mid l k l.length = l.drop k := by
  unfold mid; rw [List.take_of_length_le (by rw [List.length_drop]; omega)]
theorem mid_join (l : List ByteArray) (i j k : Nat) (h1 : i ≤ j) (h2 : j ≤ k) : mid l i j ++ mid l j k = mid l i k := by
  unfold mid
  have e : k - i = (j - i) + (k - j) := by omega
  rw [e, List.take_add, List.drop_drop, show i + (j - i) = j by omega]
theorem mid_drop (l : List ByteArray) (i j : Nat) (h : i ≤ j) : mid l i j ++ l.drop j = l.drop i := by
  unfold mid
  have : l.drop j = (l.drop i).drop (j - i) := by rw [List.drop_drop, show i + (j - i) = j by omega]
  rw [this, List.take_append_drop]
theorem mid_pre (p l : List ByteArray) (i j : Nat) : mid (p ++ l) (p.length + i) (p.length + j) = mid l i j := by
  unfold mid
  rw [List.drop_append, List.drop_of_length_le (by omega), List.nil_append]
  congr 1
  · omega
  · congr 1; omega
theorem mid_pre0 (p l : List ByteArray) (j : Nat) : mid (p ++ l) p.length (p.length + j) = l.take j := by
  have := mid_pre p l 0 j
  rw [Nat.add_zero] at this
  rw [this]; unfold mid; rw [List.drop_zero, Nat.sub_zero]

/-! inversion -/
def iv : Int → List H → List H
  | _, [] => []
  | n, h :: r => ⟨h.at' + n, h.new, h.old⟩ :: iv (n + h.new.length - h.old.length) r
theorem iv_len (hs : List H) : ∀ n, (iv n hs).length = hs.length := by
  induction hs with
  | nil => intro n; rfl
  | cons h r ih => intro n; simp [iv, ih]
theorem iv_iv (hs : List H) : ∀ n m : Int, m = -n → iv m (iv n hs) = hs := by
  induction hs with
  | nil => intro n m _; rfl
  | cons h r ih =>
    intro n m e
    subst e
    simp only [iv]
    rw [ih _ _ (by omega)]
    congr 1
    cases h
    simp only [Dif.Hk.mk.injEq, and_true]; omega
noncomputable def vC' (hs : List H) : Int := if pC hs ≠ 0 then pC hs else if pC (iv 0 hs) ≠ 0 then 10 else 0
noncomputable def vI' (hs : List H) : Int := if pC hs ≠ 0 then pI hs else if pC (iv 0 hs) ≠ 0 then -1 else 0
noncomputable def vT (hs : List H) : List H := if vC' hs = 0 then iv 0 hs else []
theorem vC'_zero {hs : List H} : vC' hs = 0 ↔ Vp hs ∧ Vp (iv 0 hs) := by
  unfold vC'
  by_cases h1 : pC hs = 0
  · by_cases h2 : pC (iv 0 hs) = 0
    · rw [if_neg (by simp [h1]), if_neg (by simp [h2])]
      exact ⟨fun _ => ⟨pC_zero.1 h1, pC_zero.1 h2⟩, fun _ => rfl⟩
    · rw [if_neg (by simp [h1]), if_pos h2]
      exact ⟨fun e => (by cases e), fun k => (h2 (pC_zero.2 k.2)).elim⟩
  · rw [if_pos h1]
    exact ⟨fun e => (h1 e).elim, fun k => (h1 (pC_zero.2 k.1)).elim⟩

/-- the inverse leads back -/
theorem undo (t : List ByteArray) (hs : List H) : ∀ (prev : Int) (k : Nat) (pre : List ByteArray) (n : Int), Ch prev hs → (∀ h ∈ hs, Has t h) → ((k : Int) ≤ prev + 1) → (n = (pre.length : Int) - k) → k ≤ t.length →
    (∀ h ∈ iv n hs, Has (pre ++ ap t k hs) h) ∧ ap (pre ++ ap t k hs) pre.length (iv n hs) = t.drop k := by
  induction hs with
  | nil =>
    intro prev k pre n _ _ _ _ _
    refine ⟨fun h hh => by simp [iv] at hh, ?_⟩
    simp [iv, ap]
  | cons h r ih =>
    intro prev k pre n hch hfit hk hn hkt
    obtain ⟨hok, hr⟩ := hch
    have hh := hfit h (List.mem_cons_self ..)
    have g1 := hok.gap; have g2 := hok.lo; have g3 := hh.hi
    obtain ⟨a, ha⟩ : ∃ a : Nat, h.at' = a := ⟨h.at'.toNat, by omega⟩
    have hen : en h = ((a + h.old.length : Nat) : Int) := by unfold en; omega
    have ean : h.at'.toNat = a := by omega
    have een : (en h).toNat = a + h.old.length := by omega
    have hka : k ≤ a := by omega
    have hat : a + h.old.length ≤ t.length := by omega
    have eq := hh.eq
    rw [ean, een] at eq
    have lm : (mid t k a).length = a - k := mid_size t k a (by omega)
    have S : pre ++ ap t k (h :: r) = (pre ++ mid t k a ++ h.new) ++ ap t (a + h.old.length) r := by
      rw [ap, ean, een]; simp [List.append_assoc]
    have hpl : (pre ++ mid t k a ++ h.new).length = pre.length + (a - k) + h.new.length := by
      rw [List.length_append, List.length_append, lm]
    obtain ⟨q1, q2⟩ := ih (en h) (a + h.old.length) (pre ++ mid t k a ++ h.new) (n + h.new.length - h.old.length) hr (fun x hx => hfit x (List.mem_cons_of_mem _ hx)) (by omega) (by rw [hpl]; omega) hat
    rw [S]
    have hS1 : Has ((pre ++ mid t k a ++ h.new) ++ ap t (a + h.old.length) r) ⟨h.at' + n, h.new, h.old⟩ := by
      have ea : (h.at' + n).toNat = pre.length + (a - k) := by omega
      have ee : (en (⟨h.at' + n, h.new, h.old⟩ : H)).toNat = pre.length + (a - k) + h.new.length := by unfold en; simp only; omega
      refine ⟨by simp only; omega, ?_, ?_⟩
      · unfold en; simp only [List.length_append, lm]; omega
      · simp only [ea, ee]
        have := mid_pre0 (pre ++ mid t k a) (h.new ++ ap t (a + h.old.length) r) h.new.length
        rw [List.length_append, lm] at this
        rw [List.append_assoc, this, List.take_left']
        rfl
    refine ⟨fun x hx => ?_, ?_⟩
    · rw [iv] at hx
      rcases List.mem_cons.1 hx with rfl | hx
      · exact hS1
      · exact q1 x hx
    · rw [iv, ap]
      have ea : (h.at' + n).toNat = pre.length + (a - k) := by omega
      have ee : (en (⟨h.at' + n, h.new, h.old⟩ : H)).toNat = (pre ++ mid t k a ++ h.new).length := by rw [hpl]; unfold en; simp only; omega
      simp only [ea]
      rw [ee, q2]
      have e1 : mid ((pre ++ mid t k a ++ h.new) ++ ap t (a + h.old.length) r) pre.length (pre.length + (a - k)) = mid t k a := by
        rw [List.append_assoc, List.append_assoc, mid_pre0, ← lm, List.take_left']
        rfl
      have e2 : mid t k a ++ h.old = mid t k (a + h.old.length) := by rw [← mid_join t k a (a + h.old.length) hka (by omega), eq]
      rw [e1, e2, mid_drop t k _ (by omega)]
theorem undo0 {t : List ByteArray} {hs : List H} (h : Ok hs t) : (∀ x ∈ iv 0 hs, Has (ap t 0 hs) x) ∧ ap (ap t 0 hs) 0 (iv 0 hs) = t := by
  have := undo t hs (-1) 0 [] 0 h.vp.ch h.fit (by omega) (by simp) (Nat.zero_le _)
  simpa using this

/-- a line of the new text comes from the old one or from a hunk -/
theorem ap_mem (t : List ByteArray) (hs : List H) : ∀ (k : Nat), ∀ x ∈ ap t k hs, x ∈ t ∨ ∃ h ∈ hs, x ∈ h.new := by
  induction hs with
  | nil => intro k x hx; exact .inl (List.mem_of_mem_drop hx)
  | cons h r ih =>
    intro k x hx
    rw [ap, List.mem_append, List.mem_append] at hx
    rcases hx with (hx | hx) | hx
    · exact .inl (List.mem_of_mem_drop (List.mem_of_mem_take hx))
    · exact .inr ⟨h, List.mem_cons_self .., hx⟩
    · rcases ih _ x hx with h' | ⟨y, hy, h'⟩
      · exact .inl h'
      · exact .inr ⟨y, List.mem_cons_of_mem _ hy, h'⟩
theorem ch_new {prev : Int} {hs : List H} (h : Ch prev hs) : ∀ k ∈ hs, Lin.vC k.new = 0 ∧ Lin.vC k.old = 0 := by
  induction hs generalizing prev with
  | nil => intro k hk; cases hk
  | cons x r ih =>
    intro k hk
    rcases List.mem_cons.1 hk with rfl | hk
    · exact ⟨h.1.new, h.1.old⟩
    · exact ih h.2 k hk
/-- the new text is a text -/
theorem ap_txt {t : List ByteArray} {hs : List H} (h : Ok hs t) : Lin.vC (ap t 0 hs) = 0 := by
  refine Lin.vC_txt ⟨h.len, fun s hs' => ?_⟩
  rcases ap_mem t hs 0 s hs' with h1 | ⟨k, hk, h1⟩
  · exact (Lin.vC_zero h.vt).2 s h1
  · exact (Lin.vC_zero (ch_new h.vp.ch k hk).1).2 s h1
/-- the inverse of a patch that applies, applies to what it made, and gives the text back -/
theorem ok_undo {t : List ByteArray} {hs : List H} (h : Ok hs t) (hv : Vp (iv 0 hs)) : Ok (iv 0 hs) (ap t 0 hs) ∧ ap (ap t 0 hs) 0 (iv 0 hs) = t := by
  obtain ⟨h1, h2⟩ := undo0 h
  exact ⟨⟨hv, ap_txt h, h1, by rw [h2]; exact len_okP h.vt⟩, h2⟩
where
  len_okP {l : List ByteArray} (h : Lin.vC l = 0) : l.length ≤ 120 := (Lin.vC_zero h).1
end Go.Proofs.YtcheggdfcdokiaaDoor.Tp
namespace Go.Proofs.YtcheggdfcdokiaaDoor.Tp
open Go.RowKit

/-- by how much a patch lengthens a text -/
def gr : List H → Int
  | [] => 0
  | h :: r => (h.new.length : Int) - h.old.length + gr r
/-- how many lines it deletes and inserts -/
def co : List H → Nat
  | [] => 0
  | h :: r => h.old.length + h.new.length + co r
theorem co_app (l m : List H) : co (l ++ m) = co l + co m := by
  induction l with
  | nil => simp [co]
  | cons h r ih => simp only [List.cons_append, co, ih]; omega
theorem ap_len (t : List ByteArray) (hs : List H) : ∀ (prev : Int) (k : Nat), Ch prev hs → (∀ h ∈ hs, Has t h) → ((k : Int) ≤ prev + 1) → k ≤ t.length → ((ap t k hs).length : Int) = t.length - k + gr hs := by
  induction hs with
  | nil => intro prev k _ _ _ hk; simp [ap, gr]; omega
  | cons h r ih =>
    intro prev k hch hfit hp hk
    obtain ⟨hok, hr⟩ := hch
    have hh := hfit h (List.mem_cons_self ..)
    have g1 := hok.gap; have g2 := hok.lo; have g3 := hh.hi
    have e1 : (en h : Int) = h.at' + h.old.length := rfl
    have := ih (en h) (en h).toNat hr (fun x hx => hfit x (List.mem_cons_of_mem _ hx)) (by omega) (by omega)
    have lm := mid_size t k h.at'.toNat (by omega)
    simp only [ap, gr, List.length_append, lm]
    omega
theorem ok_len {t : List ByteArray} {hs : List H} (h : Ok hs t) : ((ap t 0 hs).length : Int) = t.length + gr hs := by
  have := ap_len t hs (-1) 0 h.vp.ch h.fit (by omega) (Nat.zero_le _)
  rw [this]; omega
theorem lcs_skip (x y a b : List ByteArray) : Dif.lcs a b ≤ Dif.lcs (x ++ a) (y ++ b) := by
  obtain ⟨l, h1, h2, h3⟩ := Dif.lcs_has a b
  rw [← h3]
  exact Dif.lcs_max _ _ l (h1.trans (List.sublist_append_right _ _)) (h2.trans (List.sublist_append_right _ _))
def so : List H → Nat
  | [] => 0
  | h :: r => h.old.length + so r
theorem co_gr (hs : List H) : (co hs : Int) = 2 * (so hs : Nat) + gr hs := by
  induction hs with
  | nil => rfl
  | cons h r ih => simp only [co, so, gr]; omega
theorem lcs_ap (t : List ByteArray) (hs : List H) : ∀ (prev : Int) (k : Nat), Ch prev hs → (∀ h ∈ hs, Has t h) → ((k : Int) ≤ prev + 1) → k ≤ t.length → t.length - k ≤ Dif.lcs (t.drop k) (ap t k hs) + so hs := by
  induction hs with
  | nil =>
    intro prev k _ _ _ hk
    rw [ap, Dif.lcs_self, List.length_drop]; exact Nat.le_add_right _ _
  | cons h r ih =>
    intro prev k hch hfit hp hk
    obtain ⟨hok, hr⟩ := hch
    have hh := hfit h (List.mem_cons_self ..)
    have g1 := hok.gap; have g2 := hok.lo; have g3 := hh.hi
    have e1 : (en h : Int) = h.at' + h.old.length := rfl
    have := ih (en h) (en h).toNat hr (fun x hx => hfit x (List.mem_cons_of_mem _ hx)) (by omega) (by omega)
    have lm := mid_size t k h.at'.toNat (by omega)
    have d : t.drop k = mid t k h.at'.toNat ++ (h.old ++ t.drop (en h).toNat) := by
      rw [← mid_drop t k h.at'.toNat (by omega), ← mid_drop t h.at'.toNat (en h).toNat (by omega), hh.eq]
    rw [d, ap, List.append_assoc, Dif.lcs_pre, lm, so]
    have := lcs_skip h.old h.new (t.drop (en h).toNat) (ap t (en h).toNat r)
    omega
/-- no patch that leads from one text to another is cheaper than their distance -/
theorem least {t : List ByteArray} {hs : List H} (h : Ok hs t) : (t.length : Int) + (ap t 0 hs).length - 2 * (Dif.lcs t (ap t 0 hs) : Nat) ≤ (co hs : Nat) := by
  have h1 := lcs_ap t hs (-1) 0 h.vp.ch h.fit (by omega) (Nat.zero_le _)
  have h2 := ok_len h
  have h3 := co_gr hs
  rw [List.drop_zero] at h1
  omega

/-! scripts -/
theorem walk_al {a b : List ByteArray} (I : Nat → Nat → List (Nat × ByteArray) → Prop) (h0 : I 0 0 [])
    (hk : ∀ i j out (hi : i < a.length) (hj : j < b.length), a[i] = b[j] → I i j out → I (i + 1) (j + 1) (out ++ [(0, a[i])]))
    (hd : ∀ i j out (hi : i < a.length), j ≤ b.length → I i j out → I (i + 1) j (out ++ [(1, a[i])]))
    (hi' : ∀ i j out (hj : j < b.length), i ≤ a.length → I i j out → I i (j + 1) (out ++ [(2, b[j])])) : I a.length b.length (Dif.al a b) := by
  have go : ∀ (n i j : Nat) (out : List (Nat × ByteArray)), n = (a.length - i) + (b.length - j) → AAt a b i j out → I i j out → I a.length b.length (Dif.al a b) := by
    intro n
    induction n using Nat.strongRecOn with
    | ind n ih =>
      intro i j out hn hA h
      have k1 := hA.hi
      have k2 := hA.hj
      by_cases c1 : i < a.length
      · by_cases c2 : j < b.length
        · by_cases e : a[i] = b[j]
          · exact ih _ (by omega) (i + 1) (j + 1) _ rfl (hA.keep c1 c2 e) (hk i j out c1 c2 e h)
          · by_cases l : tv a b i (j + 1) ≤ tv a b (i + 1) j
            · exact ih _ (by omega) (i + 1) j _ rfl (hA.del c1 (fun _ => ⟨e, l⟩)) (hd i j out c1 k2 h)
            · exact ih _ (by omega) i (j + 1) _ rfl (hA.ins c2 (fun _ => ⟨e, l⟩)) (hi' i j out c2 k1 h)
        · exact ih _ (by omega) (i + 1) j _ rfl (hA.del c1 (fun h => (c2 h).elim)) (hd i j out c1 k2 h)
      · by_cases c2 : j < b.length
        · exact ih _ (by omega) i (j + 1) _ rfl (hA.ins c2 (fun h => (c1 h).elim)) (hi' i j out c2 k1 h)
        · have e := hA.done (by omega) (by omega)
          have e1 : i = a.length := by omega
          have e2 : j = b.length := by omega
          subst e e1 e2; exact h
  exact go _ 0 0 [] rfl (AAt.start a b) h0
/-- a patch applied as far as the line s of the old text -/
def apTo (t : List ByteArray) (s : Nat) : Nat → List H → List ByteArray
  | k, [] => mid t k s
  | k, h :: r => mid t k h.at'.toNat ++ h.new ++ apTo t s (en h).toNat r
theorem apTo_all (t : List ByteArray) (hs : List H) : ∀ k, apTo t t.length k hs = ap t k hs := by
  induction hs with
  | nil => intro k; rw [apTo, ap, mid_all]
  | cons h r ih => intro k; rw [apTo, ap, ih]
def lastE : Int → List H → Int
  | prev, [] => prev
  | _, h :: r => lastE (en h) r
theorem lastE_snoc (hs : List H) (h : H) : ∀ prev, lastE prev (hs ++ [h]) = en h := by
  induction hs with
  | nil => intro prev; rfl
  | cons x r ih => intro prev; exact ih _
theorem ch_snoc (hs : List H) (h : H) : ∀ prev, Ch prev (hs ++ [h]) ↔ Ch prev hs ∧ Hok (lastE prev hs) h := by
  induction hs with
  | nil => intro prev; simp [Ch, lastE]
  | cons x r ih => intro prev; simp only [List.cons_append, Ch, lastE, ih, and_assoc]
theorem apTo_snoc (t : List ByteArray) (hs : List H) (h : H) (s : Nat) : ∀ k, apTo t s k (hs ++ [h]) = apTo t h.at'.toNat k hs ++ h.new ++ mid t (en h).toNat s := by
  induction hs with
  | nil => intro k; rfl
  | cons x r ih => intro k; simp only [List.cons_append, apTo, ih, List.append_assoc]
theorem apTo_more (t : List ByteArray) (hs : List H) (s s' : Nat) (hs' : s ≤ s') : ∀ (prev : Int) (k : Nat), (k : Int) ≤ s → Ch prev hs → lastE prev hs ≤ s → apTo t s k hs ++ mid t s s' = apTo t s' k hs := by
  induction hs with
  | nil => intro prev k hk _ _; rw [apTo, apTo, mid_join t k s s' (by omega) hs']
  | cons h r ih =>
    intro prev k hk hch hl
    have h1 : en h ≤ s := by
      have : ∀ (r : List H) (p : Int), Ch p r → p ≤ lastE p r := by
        intro r
        induction r with
        | nil => intro p _; exact Int.le_refl _
        | cons x r ih =>
          intro p hc
          have := ih _ hc.2
          have := hc.1.gap
          have e : en x = x.at' + x.old.length := rfl
          show p ≤ lastE (en x) r
          omega
      have := this r (en h) hch.2
      exact Int.le_trans this hl
    have h2 := hch.1.lo
    have e : en h = h.at' + h.old.length := rfl
    rw [apTo, apTo, List.append_assoc, ih (en h) _ (by omega) hch.2 hl]
/-- the hunks ahead of fa lead to the text ahead of fb -/
structure Gd (a b : List ByteArray) (fa fb kc : Nat) (hs : List H) : Prop where
  ch : Ch (-1) hs
  last : lastE (-1) hs < fa
  fit : ∀ h ∈ hs, Has a h
  to : apTo a fa 0 hs = b.take fb
  cost : fa + fb = co hs + 2 * kc
theorem mid_txt {l : List ByteArray} (lo hi : Nat) (h : Lin.vC l = 0) : Lin.vC (mid l lo hi) = 0 := by
  obtain ⟨h1, h2⟩ := Lin.vC_zero h
  refine Lin.vC_txt ⟨?_, fun s hs => h2 s (List.mem_of_mem_drop (List.mem_of_mem_take hs))⟩
  unfold mid; rw [List.length_take, List.length_drop]; omega
/-- with the hunk that is still to be written -/
theorem Gd.with {a b : List ByteArray} {fa fb kc i j : Nat} {hs : List H} (g : Gd a b fa fb kc hs) (hab : okD a b) (hfi : fa ≤ i) (hfj : fb ≤ j) (hi : i ≤ a.length) (hj : j ≤ b.length) :
    Ch (-1) (hs ++ pend a b fa fb i j) ∧ lastE (-1) (hs ++ pend a b fa fb i j) ≤ i ∧ (∀ h ∈ hs ++ pend a b fa fb i j, Has a h) ∧ apTo a i 0 (hs ++ pend a b fa fb i j) = b.take j ∧ i + j = co (hs ++ pend a b fa fb i j) + 2 * kc := by
  have la := len_ok hab.1
  have gl := g.last
  have gc := g.cost
  by_cases e : fa < i ∨ fb < j
  · rw [pend_one e]
    have s1 := mid_size a fa i hi
    have s2 := mid_size b fb j hj
    have ee : en (⟨(fa : Int), mid a fa i, mid b fb j⟩ : H) = (i : Int) := by unfold en; simp only [s1]; omega
    refine ⟨(ch_snoc _ _ _).2 ⟨g.ch, ⟨by simp only; omega, by simp only; omega, mid_txt _ _ hab.1, mid_txt _ _ hab.2, by simp only [s1, s2]; omega, gl, by rw [ee]; omega⟩⟩, by rw [lastE_snoc, ee]; exact Int.le_refl _, fun h hh => ?_, ?_, ?_⟩
    · rcases List.mem_append.1 hh with hh | hh
      · exact g.fit h hh
      · rw [List.mem_singleton.1 hh]
        refine ⟨by simp only; omega, by rw [ee]; omega, ?_⟩
        rw [ee]; simp only [Int.toNat_natCast]
    · rw [apTo_snoc, ee]
      simp only [Int.toNat_natCast]
      rw [g.to, mid_nil, List.append_nil]
      unfold mid
      rw [show j = fb + (j - fb) by omega, List.take_add, show fb + (j - fb) - fb = j - fb by omega]
    · rw [co_app]
      simp only [co, s1, s2]
      omega
  · rw [pend_none e, List.append_nil]
    obtain rfl : fa = i := by omega
    obtain rfl : fb = j := by omega
    exact ⟨g.ch, by omega, g.fit, g.to, g.cost⟩
theorem script_walk {a b : List ByteArray} (hab : okD a b) : ∃ fa fb H, Pm a b fa fb a.length b.length H (Dif.al a b) ∧ Gd a b fa fb (kept (Dif.al a b)).length H := by
  have := walk_al (a := a) (b := b) (fun i j out => ∃ fa fb H, Pm a b fa fb i j H out ∧ Gd a b fa fb (kept out).length H)
    ⟨0, 0, [], Pm.start a b, ⟨trivial, by simp [lastE], fun h hh => (by cases hh), by rw [apTo, mid_nil, List.take_zero], by simp [co, kept]⟩⟩
    (fun i j out hi hj he ⟨fa, fb, H, hP, hG⟩ => ?_) (fun i j out hi _ ⟨fa, fb, H, hP, hG⟩ => ⟨fa, fb, H, hP.del hi, by rw [kept_snoc, if_neg (by decide), List.append_nil]; exact hG⟩)
    (fun i j out hj _ ⟨fa, fb, H, hP, hG⟩ => ⟨fa, fb, H, hP.ins hj, by rw [kept_snoc, if_neg (by decide), List.append_nil]; exact hG⟩)
  · exact this
  · obtain ⟨w1, w2, w3, w4, w5⟩ := hG.with hab hP.hi hP.hj (Nat.le_of_lt hi) (Nat.le_of_lt hj)
    refine ⟨i + 1, j + 1, _, hP.keep _, ⟨w1, by omega, w3, ?_, ?_⟩⟩
    · rw [← apTo_more a _ i (i + 1) (Nat.le_succ _) (-1) 0 (by omega) w1 w2, w4, mid_next a i i (Nat.le_refl _) hi, mid_nil, List.nil_append, he, List.take_succ_eq_append_getElem hj]
    · rw [kept_snoc, if_pos rfl, List.length_append]
      simp only [List.length_singleton]
      omega
/-- the script of two texts leads from one to the other, and costs their distance -/
theorem script_ok {a b : List ByteArray} (hab : okD a b) : Ok (Dif.pof (Dif.al a b)) a ∧ ap a 0 (Dif.pof (Dif.al a b)) = b ∧ (co (Dif.pof (Dif.al a b)) : Int) = dD a b := by
  obtain ⟨fa, fb, H, hP, hG⟩ := script_walk hab
  obtain ⟨w1, w2, w3, w4, w5⟩ := hG.with hab hP.hi hP.hj (Nat.le_refl _) (Nat.le_refl _)
  have e : Dif.pof (Dif.al a b) = H ++ pend a b fa fb a.length b.length := hP.done
  have k1 := hP.len
  have k2 := hP.hi
  have la := len_ok hab.1
  have lb := len_ok hab.2
  have k3 := pend_len a b fa fb a.length b.length
  rw [apTo_all, List.take_length] at w4
  rw [e]
  refine ⟨⟨⟨by rw [List.length_append]; omega, w1⟩, hab.1, w3, by rw [w4]; exact lb⟩, w4, ?_⟩
  have hk : (kept (Dif.al a b)).length = Dif.lcs a b := (Dif.kp_all a b).2.2
  rw [dD, if_pos hab, ← hk]
  omega
end Go.Proofs.YtcheggdfcdokiaaDoor.Tp
