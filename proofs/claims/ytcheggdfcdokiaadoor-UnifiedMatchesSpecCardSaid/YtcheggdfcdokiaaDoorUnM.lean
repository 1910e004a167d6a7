
/-
  Plain mathematics of patches that are applied with tolerance (no program here).
-/
import Derived.Test.YtcheggdfcdokiaaDoorTpM
namespace Go.Proofs.YtcheggdfcdokiaaDoor.Tp
open Go.RowKit
set_option maxRecDepth 4000

/-- a hunk, moved -/
def mv (h : H) (d : Int) : H := ⟨h.at' + d, h.old, h.new⟩
theorem mv_en (h : H) (d : Int) : en (mv h d) = en h + d := by unfold en mv; dsimp only; omega
theorem mv_zero (h : H) : mv h 0 = h := by unfold mv; rw [Int.add_zero]
/-- d is a possible offset -/
noncomputable def fit (t : List ByteArray) (low : Int) (h : H) (d : Int) : Bool := decide (low ≤ h.at' + d) && has t (mv h d)
theorem fit_true {t : List ByteArray} {low : Int} {h : H} {d : Int} : fit t low h d = true ↔ low ≤ h.at' + d ∧ Has t (mv h d) := by
  unfold fit; rw [Bool.and_eq_true, decide_eq_true_iff, has_true]
theorem fit_low {t : List ByteArray} {low : Int} {h : H} {d : Int} (k : ¬ low ≤ h.at' + d) : fit t low h d = false := by
  unfold fit; rw [decide_eq_false k]; rfl
theorem fit_has {t : List ByteArray} {low : Int} {h : H} {d : Int} (k : low ≤ h.at' + d) : fit t low h d = has t (mv h d) := by
  unfold fit; rw [decide_eq_true k]; rfl
/-- the nearest offset: n distances are tried from k on, the negative one first -/
noncomputable def fo (t : List ByteArray) (low : Int) (h : H) : Nat → Nat → Option Int
  | 0, _ => none
  | n + 1, k => if fit t low h (-(k : Int)) = true then some (-(k : Int)) else if fit t low h (k : Int) = true then some (k : Int) else fo t low h n (k + 1)
theorem fo_neg {t : List ByteArray} {low : Int} {h : H} {n k : Nat} (e : fit t low h (-(k : Int)) = true) : fo t low h (n + 1) k = some (-(k : Int)) := if_pos e
theorem fo_pos {t : List ByteArray} {low : Int} {h : H} {n k : Nat} (e : fit t low h (-(k : Int)) = false) (e' : fit t low h (k : Int) = true) : fo t low h (n + 1) k = some (k : Int) := by
  unfold fo; rw [if_neg (by simp [e]), if_pos e']
theorem fo_next {t : List ByteArray} {low : Int} {h : H} {n k : Nat} (e : fit t low h (-(k : Int)) = false) (e' : fit t low h (k : Int) = false) : fo t low h (n + 1) k = fo t low h n (k + 1) := by
  conv => lhs; unfold fo
  rw [if_neg (by simp [e]), if_neg (by simp [e'])]
/-- what was found fits, is no farther than was tried, and nothing nearer fits -/
theorem fo_some {t : List ByteArray} {low : Int} {h : H} : ∀ (n k : Nat) (d : Int), fo t low h n k = some d →
    fit t low h d = true ∧ k ≤ d.natAbs ∧ d.natAbs < k + n ∧ ∀ d' : Int, k ≤ d'.natAbs → (d'.natAbs < d.natAbs ∨ d'.natAbs = d.natAbs ∧ d' < d) → fit t low h d' = false := by
  intro n
  induction n with
  | zero => intro k d e; cases e
  | succ n ih =>
    intro k d e
    cases e1 : fit t low h (-(k : Int)) with
    | true =>
      rw [fo_neg e1] at e
      cases e
      exact ⟨e1, by omega, by omega, fun d' h1 h2 => by omega⟩
    | false =>
      cases e2 : fit t low h (k : Int) with
      | true =>
        rw [fo_pos e1 e2] at e
        cases e
        refine ⟨e2, by omega, by omega, fun d' h1 h2 => ?_⟩
        obtain rfl : d' = -(k : Int) := by omega
        exact e1
      | false =>
        rw [fo_next e1 e2] at e
        obtain ⟨a1, a2, a3, a4⟩ := ih (k + 1) d e
        refine ⟨a1, by omega, by omega, fun d' h1 h2 => ?_⟩
        by_cases hk : k + 1 ≤ d'.natAbs
        · exact a4 d' hk h2
        · rcases (show d' = -(k : Int) ∨ d' = (k : Int) by omega) with rfl | rfl
          · exact e1
          · exact e2
theorem fo_none {t : List ByteArray} {low : Int} {h : H} : ∀ (n k : Nat), fo t low h n k = none → ∀ d : Int, k ≤ d.natAbs → d.natAbs < k + n → fit t low h d = false := by
  intro n
  induction n with
  | zero => intro k _ d h1 h2; omega
  | succ n ih =>
    intro k e d h1 h2
    cases e1 : fit t low h (-(k : Int)) with
    | true => rw [fo_neg e1] at e; cases e
    | false =>
      cases e2 : fit t low h (k : Int) with
      | true => rw [fo_pos e1 e2] at e; cases e
      | false =>
        rw [fo_next e1 e2] at e
        by_cases hk : k + 1 ≤ d.natAbs
        · exact ih (k + 1) e d hk (by omega)
        · rcases (show d = -(k : Int) ∨ d = (k : Int) by omega) with rfl | rfl
          · exact e1
          · exact e2
/-- the offset of a hunk -/
noncomputable def off (t : List ByteArray) (reach : Nat) (low : Int) (h : H) : Option Int := fo t low h (reach + 1) 0
theorem off_is {t : List ByteArray} {reach : Nat} {low : Int} {h : H} {d : Int} (e : off t reach low h = some d) : low ≤ h.at' + d ∧ Has t (mv h d) ∧ d.natAbs ≤ reach := by
  obtain ⟨a1, -, a3, -⟩ := fo_some _ _ _ e
  have := fit_true.1 a1
  exact ⟨this.1, this.2, by omega⟩
/-- the offset is d if d fits and nothing nearer does -/
theorem off_eq {t : List ByteArray} {reach : Nat} {low : Int} {h : H} {d : Int} (h1 : fit t low h d = true) (h2 : d.natAbs ≤ reach) (h3 : ∀ d' : Int, (d'.natAbs < d.natAbs ∨ d'.natAbs = d.natAbs ∧ d' < d) → fit t low h d' = false) : off t reach low h = some d := by
  cases e : off t reach low h with
  | none => have := fo_none _ _ e d (by omega) (by omega); rw [h1] at this; cases this
  | some d' =>
    obtain ⟨a1, -, -, a4⟩ := fo_some _ _ _ e
    by_cases hd : d' = d
    · rw [hd]
    · by_cases hl : d'.natAbs < d.natAbs ∨ d'.natAbs = d.natAbs ∧ d' < d
      · rw [h3 d' hl] at a1; cases a1
      · have := a4 d (by omega) (by omega)
        rw [h1] at this; cases this
theorem off_here {t : List ByteArray} {reach : Nat} {low : Int} {h : H} (h1 : low ≤ h.at') (h2 : Has t h) : off t reach low h = some 0 :=
  off_eq (fit_true.2 ⟨by omega, by rw [mv_zero]; exact h2⟩) (by simp) (fun d' hd => by simp at hd; omega)
/-- the offsets of the hunks, behind those that were found; where it stops -/
noncomputable def oz (t : List ByteArray) (reach : Nat) : List H → Int → Nat → List Int → Option Nat × List Int
  | [], _, _, acc => (none, acc)
  | h :: r, low, i, acc => match off t reach low h with
    | none => (some i, acc)
    | some d => oz t reach r (en h + d + 1) (i + 1) (acc ++ [d])
theorem oz_stop {t : List ByteArray} {reach : Nat} {hs : List H} {low : Int} {i k : Nat} {acc : List Int} (hk : k < hs.length) (e : off t reach low hs[k] = none) : oz t reach (hs.drop k) low i acc = (some i, acc) := by
  rw [List.drop_eq_getElem_cons hk]; unfold oz; rw [e]
theorem oz_step {t : List ByteArray} {reach : Nat} {hs : List H} {low : Int} {i k : Nat} {acc : List Int} {d : Int} (hk : k < hs.length) (e : off t reach low hs[k] = some d) :
    oz t reach (hs.drop k) low i acc = oz t reach (hs.drop (k + 1)) (en hs[k] + d + 1) (i + 1) (acc ++ [d]) := by
  rw [List.drop_eq_getElem_cons hk]; conv => lhs; unfold oz
  rw [e]
/-- the hunks at their places -/
def mvs (hs : List H) (ds : List Int) : List H := List.zipWith mv hs ds
theorem mvs_snoc (ds : List Int) (d : Int) : ∀ (hs : List H) (h : ds.length < hs.length), mvs hs (ds ++ [d]) = mvs hs ds ++ [mv hs[ds.length] d] := by
  unfold mvs
  induction ds with
  | nil =>
    intro hs h
    cases hs with
    | nil => simp at h
    | cons x r => simp
  | cons e ds ih =>
    intro hs h
    cases hs with
    | nil => simp at h
    | cons x r =>
      have := ih r (by simpa using h)
      simp [this]
theorem mvs_len (hs : List H) (ds : List Int) (h : ds.length ≤ hs.length) : (mvs hs ds).length = ds.length := by
  unfold mvs; rw [List.length_zipWith]; omega
theorem oz_next {t : List ByteArray} {R : Nat} {hs : List H} {lo : Int} {ds : List Int} {k : Nat} {d : Int} {X : Option Nat × List Int} (hk : k < hs.length) (hd : ds.length = k) (ht : t.length ≤ 120) (hl : 0 ≤ lo) (e : off t R lo hs[k] = some d) (h : oz t R (hs.drop k) lo k ds = X) :
    oz t R (hs.drop (k + 1)) (en hs[k] + d + 1) (k + 1) (ds ++ [d]) = X ∧ mvs hs (ds ++ [d]) = mvs hs ds ++ [mv hs[k] d] ∧ (ds ++ [d]).length = k + 1 ∧ 0 ≤ hs[k].at' + d ∧ hs[k].at' + d + hs[k].old.length ≤ 120 ∧ d.natAbs ≤ R := by
  subst hd
  obtain ⟨a1, a2, a3⟩ := off_is e
  have h1 := a2.hi
  rw [mv_en] at h1
  have h2 : (en hs[ds.length] : Int) = hs[ds.length].at' + hs[ds.length].old.length := rfl
  exact ⟨by rw [← h, oz_step hk e], mvs_snoc ds d hs hk, by simp, by omega, by omega, a3⟩
/-- Fuzzy's results -/
noncomputable def zC (t : List ByteArray) (hs : List H) (reach : Int) : Int :=
  if pC hs ≠ 0 then pC hs else if Lin.vC t ≠ 0 then Lin.vC t else if reach < 0 ∨ 120 < reach then 3 else
    match (oz t reach.toNat hs 0 0 []).1 with
    | some _ => 19
    | none => aC (mvs hs (oz t reach.toNat hs 0 0 []).2) t
noncomputable def zI (t : List ByteArray) (hs : List H) (reach : Int) : Int :=
  if pC hs ≠ 0 then pI hs else if Lin.vC t ≠ 0 then -2 else if reach < 0 ∨ 120 < reach then -3 else
    match (oz t reach.toNat hs 0 0 []).1 with
    | some k => (k : Int)
    | none => aI (mvs hs (oz t reach.toNat hs 0 0 []).2) t
noncomputable def zT (t : List ByteArray) (hs : List H) (reach : Int) : List ByteArray := if zC t hs reach = 0 then aT (mvs hs (oz t reach.toNat hs 0 0 []).2) t else []
noncomputable def zO (t : List ByteArray) (hs : List H) (reach : Int) : List Int := if zC t hs reach = 0 then (oz t reach.toNat hs 0 0 []).2 else []
theorem z_patch {t : List ByteArray} {hs : List H} {reach : Int} (h : pC hs ≠ 0) : zC t hs reach = pC hs ∧ zI t hs reach = pI hs ∧ zT t hs reach = [] ∧ zO t hs reach = [] := by
  have e : zC t hs reach = pC hs := if_pos h
  exact ⟨e, if_pos h, if_neg (by rw [e]; exact h), if_neg (by rw [e]; exact h)⟩
theorem z_text {t : List ByteArray} {hs : List H} {reach : Int} (h : pC hs = 0) (h2 : Lin.vC t ≠ 0) : zC t hs reach = Lin.vC t ∧ zI t hs reach = -2 ∧ zT t hs reach = [] ∧ zO t hs reach = [] := by
  have e : zC t hs reach = Lin.vC t := by unfold zC; rw [if_neg (by simp [h]), if_pos h2]
  exact ⟨e, by unfold zI; rw [if_neg (by simp [h]), if_pos h2], if_neg (by rw [e]; exact h2), if_neg (by rw [e]; exact h2)⟩
theorem z_reach {t : List ByteArray} {hs : List H} {reach : Int} (h : pC hs = 0) (h2 : Lin.vC t = 0) (h3 : reach < 0 ∨ 120 < reach) : zC t hs reach = 3 ∧ zI t hs reach = -3 ∧ zT t hs reach = [] ∧ zO t hs reach = [] := by
  have e : zC t hs reach = 3 := by unfold zC; rw [if_neg (by simp [h]), if_neg (by simp [h2]), if_pos h3]
  exact ⟨e, by unfold zI; rw [if_neg (by simp [h]), if_neg (by simp [h2]), if_pos h3], if_neg (by rw [e]; decide), if_neg (by rw [e]; decide)⟩
theorem z_conf {t : List ByteArray} {hs : List H} {reach : Int} {k : Nat} (h : pC hs = 0) (h2 : Lin.vC t = 0) (h3 : ¬ (reach < 0 ∨ 120 < reach)) (h4 : (oz t reach.toNat hs 0 0 []).1 = some k) : zC t hs reach = 19 ∧ zI t hs reach = k ∧ zT t hs reach = [] ∧ zO t hs reach = [] := by
  have e : zC t hs reach = 19 := by unfold zC; rw [if_neg (by simp [h]), if_neg (by simp [h2]), if_neg h3, h4]
  exact ⟨e, by unfold zI; rw [if_neg (by simp [h]), if_neg (by simp [h2]), if_neg h3, h4], if_neg (by rw [e]; decide), if_neg (by rw [e]; decide)⟩
theorem z_app {t : List ByteArray} {hs : List H} {reach : Int} {ds : List Int} (h : pC hs = 0) (h2 : Lin.vC t = 0) (h3 : ¬ (reach < 0 ∨ 120 < reach)) (h4 : oz t reach.toNat hs 0 0 [] = (none, ds)) :
    zC t hs reach = aC (mvs hs ds) t ∧ zI t hs reach = aI (mvs hs ds) t ∧ zT t hs reach = aT (mvs hs ds) t ∧ zO t hs reach = if aC (mvs hs ds) t = 0 then ds else [] := by
  have e : zC t hs reach = aC (mvs hs ds) t := by unfold zC; rw [if_neg (by simp [h]), if_neg (by simp [h2]), if_neg h3, h4]
  refine ⟨e, by unfold zI; rw [if_neg (by simp [h]), if_neg (by simp [h2]), if_neg h3, h4], ?_, ?_⟩
  · unfold zT; rw [e, h4]
    by_cases k : aC (mvs hs ds) t = 0
    · rw [if_pos k]
    · rw [if_neg k]; unfold aT; rw [if_neg k]
  · unfold zO; rw [e, h4]
/-- where a patch applies, all offsets are 0 -/
theorem oz_exact {t : List ByteArray} {reach : Nat} : ∀ (hs : List H) (prev : Int) (i : Nat) (acc : List Int), Ch prev hs → (∀ h ∈ hs, Has t h) → oz t reach hs (prev + 1) i acc = (none, acc ++ hs.map fun _ => 0) := by
  intro hs
  induction hs with
  | nil => intro prev i acc _ _; simp [oz]
  | cons h r ih =>
    intro prev i acc hc hf
    have e : off t reach (prev + 1) h = some 0 := off_here (by have := hc.1.gap; omega) (hf h (List.mem_cons_self ..))
    unfold oz
    rw [e]
    dsimp only
    rw [Int.add_zero, ih (en h) (i + 1) (acc ++ [0]) hc.2 (fun x hx => hf x (List.mem_cons_of_mem _ hx)), List.map_cons, List.append_assoc]
    rfl
theorem mvs_zero (hs : List H) : mvs hs (hs.map fun _ => 0) = hs := by
  unfold mvs
  induction hs with
  | nil => rfl
  | cons h r ih => rw [List.map_cons, List.zipWith_cons_cons, ih, mv_zero]
theorem z_exact {t : List ByteArray} {hs : List H} {reach : Int} (h : aC hs t = 0) (h3 : ¬ (reach < 0 ∨ 120 < reach)) : zC t hs reach = 0 ∧ zT t hs reach = aT hs t ∧ zO t hs reach = hs.map fun _ => 0 := by
  have ok := aC_zero.1 h
  have e := oz_exact (t := t) (reach := reach.toNat) hs (-1) 0 [] ok.vp.ch ok.fit
  rw [List.nil_append] at e
  obtain ⟨a1, -, a3, a4⟩ := z_app (pC_zero.2 ok.vp) ok.vt h3 e
  rw [mvs_zero] at a1 a3 a4
  exact ⟨a1.trans h, a3, by rw [a4, if_pos h]⟩

/-! further lines in front -/
theorem front_txt {l : List ByteArray} (n : Nat) (h : Lin.vC l = 0) (hn : l.length + n ≤ 120) : Lin.vC (List.replicate n ByteArray.empty ++ l) = 0 := by
  refine Lin.vC_txt ⟨by rw [List.length_append, List.length_replicate]; omega, fun s hs => ?_⟩
  rcases List.mem_append.1 hs with hs | hs
  · rw [List.eq_of_mem_replicate hs]; rfl
  · exact (Lin.vC_zero h).2 s hs
theorem mid_get (l : List ByteArray) (i j : Nat) (h : i < j) : (mid l i j)[0]? = l[i]? := by
  unfold mid
  rw [List.getElem?_take_of_lt (by omega), List.getElem?_drop, Nat.add_zero]
theorem z_shift {t : List ByteArray} {h : H} {n : Nat} (ha : aC [h] t = 0) (hn : n ≤ 20) (h0 : 0 < h.old.length) (hl : t.length + n ≤ 120) (hs : (aT [h] t).length + n ≤ 120)
    (one : ∀ i : Nat, (i : Int) ≠ h.at' → i + h.old.length ≤ t.length → mid t i (i + h.old.length) ≠ h.old) (ne : ∀ x ∈ h.old, x ≠ ByteArray.empty) :
    zC (List.replicate n ByteArray.empty ++ t) [h] 20 = 0 ∧ zT (List.replicate n ByteArray.empty ++ t) [h] 20 = List.replicate n ByteArray.empty ++ aT [h] t ∧ zO (List.replicate n ByteArray.empty ++ t) [h] 20 = [(n : Int)] := by
  have ok := aC_zero.1 ha
  have eT : aT [h] t = ap t 0 [h] := if_pos ha
  have hk := ok.vp.ch.1
  have hf := ok.fit h (List.mem_singleton.2 rfl)
  have f1 := hf.lo
  have f2 := hf.hi
  have f3 := hf.eq
  have een : (en h).toNat = h.at'.toNat + h.old.length := by unfold en; omega
  rw [een] at f3
  obtain ⟨F, hF⟩ : ∃ F, F = List.replicate n ByteArray.empty := ⟨_, rfl⟩
  have lF : F.length = n := by rw [hF, List.length_replicate]
  have hT : Has (F ++ t) (mv h n) := by
    refine ⟨by unfold mv; dsimp only; omega, by rw [mv_en, List.length_append]; omega, ?_⟩
    have e1 : (mv h n).at'.toNat = F.length + h.at'.toNat := by unfold mv; dsimp only; omega
    have e2 : (en (mv h n)).toNat = F.length + (h.at'.toNat + h.old.length) := by rw [mv_en]; omega
    rw [e1, e2, mid_pre, f3]; rfl
  have o1 : off (F ++ t) 20 0 h = some (n : Int) := by
    refine off_eq (fit_true.2 ⟨by omega, hT⟩) (by omega) (fun d' hd => ?_)
    cases e : fit (F ++ t) 0 h d' with
    | false => rfl
    | true =>
      exfalso
      obtain ⟨k1, k2⟩ := fit_true.1 e
      have k3 := k2.hi
      have k4 := k2.eq
      rw [mv_en, List.length_append] at k3
      have e0 : (en h : Int) = h.at' + h.old.length := rfl
      have e1 : (mv h d').at'.toNat = (h.at' + d').toNat := rfl
      have e2 : (en (mv h d')).toNat = (h.at' + d').toNat + h.old.length := by rw [mv_en]; omega
      rw [e1, e2] at k4
      have k5 : (mv h d').old = h.old := rfl
      rw [k5] at k4
      obtain ⟨i, hi⟩ : ∃ i : Nat, i = (h.at' + d').toNat := ⟨_, rfl⟩
      rw [← hi] at k4
      by_cases hin : i < n
      · have g := mid_get (F ++ t) i (i + h.old.length) (by omega)
        rw [k4, List.getElem?_append_left (by omega), hF, List.getElem?_replicate, if_pos hin] at g
        have hm : ByteArray.empty ∈ h.old := List.mem_of_getElem? g
        exact ne _ hm rfl
      · have ei : i = F.length + (i - n) := by omega
        have ej : i + h.old.length = F.length + ((i - n) + h.old.length) := by omega
        rw [ej, ei, mid_pre, show F.length + (i - n) - n = i - n by omega] at k4
        refine one (i - n) (by omega) (by omega) k4
  have o2 : oz (F ++ t) (20 : Int).toNat [h] 0 0 [] = (none, [(n : Int)]) := by
    unfold oz
    rw [show (20 : Int).toNat = 20 from rfl, o1]
    rfl
  have em : mvs [h] [(n : Int)] = [mv h n] := rfl
  have vT : Lin.vC (F ++ t) = 0 := by rw [hF]; exact front_txt n ok.vt hl
  have ea : ap (F ++ t) 0 [mv h n] = F ++ ap t 0 [h] := by
    simp only [ap]
    have e1 : (mv h n).at'.toNat = F.length + h.at'.toNat := by unfold mv; dsimp only; omega
    have e2 : (en (mv h n)).toNat = F.length + (h.at'.toNat + h.old.length) := by rw [mv_en]; omega
    rw [e1, e2, een]
    have m1 : mid (F ++ t) 0 (F.length + h.at'.toNat) = F ++ mid t 0 h.at'.toNat := by
      rw [← mid_join (F ++ t) 0 F.length (F.length + h.at'.toNat) (by omega) (by omega), mid_pre0]
      unfold mid; simp
    rw [m1, show (F ++ t).drop (F.length + (h.at'.toNat + h.old.length)) = t.drop (h.at'.toNat + h.old.length) by rw [List.drop_append]; simp]
    simp [mv]
  have okT : Ok [mv h n] (F ++ t) := by
    refine ⟨⟨by simp, ⟨⟨hT.lo, ?_, hk.old, hk.new, hk.some', ?_, ?_⟩, trivial⟩⟩, vT, fun x hx => by rw [List.mem_singleton.1 hx]; exact hT, ?_⟩
    · have := hT.hi; have e0 : (en (mv h n) : Int) = (mv h n).at' + h.old.length := rfl
      rw [List.length_append] at this; omega
    · have := hT.lo; omega
    · have := hT.hi; rw [List.length_append] at this; omega
    · rw [ea, List.length_append, lF]; rw [eT] at hs; omega
  rw [← hF]
  obtain ⟨a1, -, a3, a4⟩ := z_app (pC_zero.2 ok.vp) vT (show ¬ ((20 : Int) < 0 ∨ 120 < (20 : Int)) by omega) o2
  rw [em] at a1 a3 a4
  have z := aC_zero.2 okT
  refine ⟨a1.trans z, ?_, by rw [a4, if_pos z]⟩
  rw [a3, eT]
  unfold aT; rw [if_pos z, ea]
end Go.Proofs.YtcheggdfcdokiaaDoor.Tp
