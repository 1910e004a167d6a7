/-
  Plain mathematics of exchanged and of moved patches (no program here).
  Plain mathematics of composition: scripts of steps (no program here).
  Plain mathematics of composition: the places of the text between two patches (no program here).
  Plain mathematics of composition: a text of numbered lines, the patch read off it, conflicts (no program here).
  Plain mathematics of composition: the reference's way gives the composed patch (no program here).
  Plain mathematics of composition: the numbered lines, hunk by hunk (no program here).
  Plain mathematics of composition: exchanged patches compose to one patch (no program here).
  Plain mathematics of composition: how the places grow, hunk by hunk (no program here).
  Plain mathematics of changesOf: the patch of steps while its last hunk is still apart (no program here).
-/
import Derived.Test.YtbgnckbgpiajjaaTpE
import Derived.Test.YtbgnckbgpiajjaaTpM
namespace Go.Proofs.Ytbgnckbgpiajjaa.Tp
open Go.RowKit
set_option maxRecDepth 4000

/-- a change: its range, and by how many lines the text grows -/
structure Cg where
  fr : Int
  to : Int
  gr : Int
def chg (h : H) : Cg := ⟨h.at', en h, (h.new.length : Int) - h.old.length⟩
def cg (hs : List H) : List Cg := hs.map chg
def t1 (h : H) (c : Cg) : Bool := decide (h.at' ≤ c.to) && decide (c.fr ≤ en h)
def tch (qs : List H) (cs : List Cg) : Bool := qs.any fun h => cs.any (t1 h)
def gb (a : Int) : List Cg → Int
  | [] => 0
  | c :: r => (if c.to < a then c.gr else 0) + gb a r
def bh (hs : List H) (cs : List Cg) : List H := hs.map fun h => ⟨h.at' + gb h.at' cs, h.old, h.new⟩
def mv (n : Int) (cs : List Cg) (hs : List H) : List H := hs.map fun h => ⟨h.at' + n + gb h.at' cs, h.old, h.new⟩
theorem bh_mv (hs : List H) (cs : List Cg) : bh hs cs = mv 0 cs hs := by simp [bh, mv]
/-- gaps between the hunks -/
def Gp : Int → List H → Prop
  | _, [] => True
  | prev, h :: r => prev < h.at' ∧ Gp (en h) r
/-- x touches none of O -/
def Aw (x : H) (O : List H) : Prop := ∀ o ∈ O, en o < x.at' ∨ en x < o.at'
theorem en_ge (h : H) : h.at' ≤ en h := by unfold en; omega
theorem ch_gp {hs : List H} : ∀ {prev : Int}, Ch prev hs → Gp prev hs := by
  induction hs with
  | nil => intro _ _; trivial
  | cons h r ih => intro prev k; exact ⟨k.1.gap, ih k.2⟩
theorem Gp.iv {hs : List H} : ∀ {prev : Int} (n : Int), Gp prev hs → Gp (prev + n) (iv n hs) := by
  induction hs with
  | nil => intro _ _ _; trivial
  | cons h r ih =>
    intro prev n k
    refine ⟨by have := k.1; dsimp only; omega, ?_⟩
    have := ih (n + h.new.length - h.old.length) k.2
    have e : en (⟨h.at' + n, h.new, h.old⟩ : H) = en h + (n + h.new.length - h.old.length) := by unfold en; dsimp only; omega
    rw [e]; exact this
theorem Gp.far {hs : List H} : ∀ {prev : Int}, Gp prev hs → ∀ o ∈ hs, prev < o.at' := by
  induction hs with
  | nil => intro _ _ o ho; cases ho
  | cons h r ih =>
    intro prev k o ho
    rcases List.mem_cons.1 ho with rfl | ho
    · exact k.1
    · have := ih k.2 o ho
      have := en_ge h
      have := k.1
      omega
theorem Gp.up {hs : List H} {prev p' : Int} (k : Gp prev hs) (h : ∀ o ∈ hs, p' < o.at') : Gp p' hs := by
  cases hs with
  | nil => trivial
  | cons x r => exact ⟨h x (List.mem_cons_self ..), k.2⟩
theorem t1_iff (x o : H) : t1 x (chg o) = true ↔ x.at' ≤ en o ∧ o.at' ≤ en x := by
  unfold t1 chg
  rw [Bool.and_eq_true, decide_eq_true_iff, decide_eq_true_iff]
theorem tch_false {X O : List H} : tch X (cg O) = false ↔ ∀ x ∈ X, Aw x O := by
  unfold tch cg Aw
  rw [List.any_eq_false]
  constructor
  · intro h x hx o ho
    have := h x hx
    rw [Bool.not_eq_true, List.any_eq_false] at this
    have := this (chg o) (List.mem_map_of_mem ho)
    rw [t1_iff] at this
    omega
  · intro h x hx
    rw [Bool.not_eq_true, List.any_eq_false]
    intro c hc
    obtain ⟨o, ho, rfl⟩ := List.mem_map.1 hc
    have := h x hx o ho
    rw [t1_iff]
    omega
theorem aw_symm {X O : List H} (h : ∀ x ∈ X, Aw x O) : ∀ o ∈ O, Aw o X := fun o ho x hx => (h x hx o ho).symm
theorem tch_symm (X O : List H) : tch X (cg O) = tch O (cg X) := by
  cases h : tch X (cg O) with
  | false => exact (tch_false.2 (aw_symm (tch_false.1 h))).symm
  | true =>
    cases k : tch O (cg X) with
    | true => rfl
    | false => rw [tch_false.2 (aw_symm (tch_false.1 k))] at h; cases h
theorem gb_zero {a : Int} {O : List H} (h : ∀ o ∈ O, a ≤ o.at') : gb a (cg O) = 0 := by
  induction O with
  | nil => rfl
  | cons o r ih =>
    have h1 := h o (List.mem_cons_self ..)
    have h2 := en_ge o
    have := ih (fun x hx => h x (List.mem_cons_of_mem _ hx))
    show (if en o < a then _ else (0 : Int)) + gb a (cg r) = 0
    rw [if_neg (by omega), this]; rfl
theorem gb_cons (a : Int) (o : H) (r : List H) : gb a (cg (o :: r)) = (if en o < a then (o.new.length : Int) - o.old.length else 0) + gb a (cg r) := rfl
/-- behind a hunk that is behind x, all are -/
theorem far_all {x o : H} {r : List H} (hr : Gp (en o) r) (h : en x < o.at') : ∀ y ∈ o :: r, en x < y.at' := by
  intro y hy
  rcases List.mem_cons.1 hy with rfl | hy
  · exact h
  · have := hr.far y hy
    have := en_ge o
    omega
theorem gb_far {x : H} {O : List H} (h : ∀ y ∈ O, en x < y.at') : gb x.at' (cg O) = 0 :=
  gb_zero fun o ho => by have := h o ho; have := en_ge x; omega
/-- what comes behind prev, stays there -/
theorem gb_low (x : H) (O : List H) : ∀ (prev : Int), Gp prev O → prev < x.at' → Aw x O → prev < x.at' + gb x.at' (cg O) := by
  induction O with
  | nil => intro prev _ h _; simp only [cg, List.map_nil, gb]; omega
  | cons o r ih =>
    intro prev hg h ha
    rcases ha o (List.mem_cons_self ..) with k | k
    · have := ih (en o) hg.2 k (fun y hy => ha y (List.mem_cons_of_mem _ hy))
      have h1 := hg.1
      have h2 : en o = o.at' + o.old.length := rfl
      rw [gb_cons, if_pos k]; omega
    · rw [gb_far (far_all hg.2 k)]; omega
/-- moved over O and then over what undoes O -/
theorem gb_back (x : H) (O : List H) : ∀ (prev n : Int), Gp prev O → Aw x O →
    gb (x.at' + n + gb x.at' (cg O)) (cg (iv n O)) = - gb x.at' (cg O) ∧ Aw ⟨x.at' + n + gb x.at' (cg O), x.old, x.new⟩ (iv n O) := by
  induction O with
  | nil => intro prev n _ _; exact ⟨rfl, fun o ho => by cases ho⟩
  | cons o r ih =>
    intro prev n hg ha
    rcases ha o (List.mem_cons_self ..) with k | k
    · have ha' : Aw x r := fun y hy => ha y (List.mem_cons_of_mem _ hy)
      have lo := gb_low x r (en o) hg.2 k ha'
      obtain ⟨i1, i2⟩ := ih (en o) (n + o.new.length - o.old.length) hg.2 ha'
      have h2 : en o = o.at' + o.old.length := rfl
      have e : x.at' + n + gb x.at' (cg (o :: r)) = x.at' + (n + o.new.length - o.old.length) + gb x.at' (cg r) := by rw [gb_cons, if_pos k]; omega
      have e2 : gb x.at' (cg (o :: r)) = ((o.new.length : Int) - o.old.length) + gb x.at' (cg r) := by rw [gb_cons, if_pos k]
      have e3 : en (⟨o.at' + n, o.new, o.old⟩ : H) = o.at' + n + o.new.length := rfl
      rw [e, e2]
      refine ⟨?_, ?_⟩
      · show gb _ (cg (⟨o.at' + n, o.new, o.old⟩ :: iv (n + o.new.length - o.old.length) r)) = _
        rw [gb_cons, if_pos (by rw [e3]; omega), i1]
        dsimp only; omega
      · intro y hy
        rcases List.mem_cons.1 (show y ∈ (⟨o.at' + n, o.new, o.old⟩ : H) :: iv (n + o.new.length - o.old.length) r from hy) with rfl | hy
        · left; rw [e3]; dsimp only; omega
        · exact i2 y hy
    · have fa := far_all hg.2 k
      have z := gb_far fa
      have gi : Gp (en x + n) (iv n (o :: r)) := Gp.iv n (Gp.up hg fa)
      rw [z]
      refine ⟨?_, fun y hy => ?_⟩
      · rw [gb_zero (fun y hy => by have := gi.far y hy; have := en_ge x; omega)]; rfl
      · right
        have := gi.far y hy
        have e : en (⟨x.at' + n + 0, x.old, x.new⟩ : H) = en x + n := by unfold en; dsimp only; omega
        rw [e]; exact this
/-- Lemma A: over O and over what undoes O: nothing has changed -/
theorem bh_back {X O : List H} {prev : Int} (hg : Gp prev O) (h : ∀ x ∈ X, Aw x O) : bh (bh X (cg O)) (cg (iv 0 O)) = X ∧ ∀ y ∈ bh X (cg O), Aw y (iv 0 O) := by
  constructor
  · unfold bh
    rw [List.map_map]
    conv => rhs; rw [← List.map_id X]
    refine List.map_congr_left fun x hx => ?_
    have := (gb_back x O prev 0 hg (h x hx)).1
    rw [Int.add_zero] at this
    simp only [Function.comp, id]
    cases x
    simp only [Dif.Hk.mk.injEq, and_true]
    dsimp only at this ⊢
    rw [this]; omega
  · intro y hy
    obtain ⟨x, hx, rfl⟩ := List.mem_map.1 hy
    have := (gb_back x O prev 0 hg (h x hx)).2
    rwa [Int.add_zero] at this

theorem gr_mv (n : Int) (cs : List Cg) (hs : List H) : gr (mv n cs hs) = gr hs := by
  induction hs with
  | nil => rfl
  | cons h r ih => show ((h.new.length : Int) - h.old.length) + gr (mv n cs r) = _; rw [ih]; rfl
theorem gr_bh (cs : List Cg) (hs : List H) : gr (bh hs cs) = gr hs := by rw [bh_mv, gr_mv]
theorem gb_iff {a b : Int} {f : H → H} (O : List H) (hf : ∀ o ∈ O, (en (f o) < a ↔ en o < b) ∧ (f o).new = o.new ∧ (f o).old = o.old) : gb a (cg (O.map f)) = gb b (cg O) := by
  induction O with
  | nil => rfl
  | cons o r ih =>
    obtain ⟨h1, h2, h3⟩ := hf o (List.mem_cons_self ..)
    rw [List.map_cons, gb_cons, gb_cons, ih (fun x hx => hf x (List.mem_cons_of_mem _ hx)), h2, h3]
    by_cases k : en o < b
    · rw [if_pos k, if_pos (h1.2 k)]
    · rw [if_neg k, if_neg (fun e => k (h1.1 e))]
/-- how o lies to the k-th hunk of X, before and behind X -/
theorem gb_cross (o : H) (X : List H) : ∀ (prev n : Int), Gp prev X → Aw o X → ∀ k (hk : k < X.length), (en o + n + gb o.at' (cg X) < X[k].at' + n + gr (X.take k) ↔ en o < X[k].at') := by
  induction X with
  | nil => intro _ _ _ _ k hk; simp at hk
  | cons x r ih =>
    intro prev n hg ha k hk
    have ha' : Aw o r := fun y hy => ha y (List.mem_cons_of_mem _ hy)
    have eo := en_ge o
    have ex : en x = x.at' + x.old.length := rfl
    rcases ha x (List.mem_cons_self ..) with h | h
    · have lo := gb_low o r (en x) hg.2 h ha'
      rw [gb_cons, if_pos h]
      cases k with
      | zero =>
        simp only [List.getElem_cons_zero, List.take_zero, gr]
        omega
      | succ k =>
        have := ih (en x) n hg.2 ha' k (by simpa using hk)
        simp only [List.getElem_cons_succ, List.take_succ_cons, gr]
        omega
    · have fa := far_all hg.2 h
      have z := gb_far fa
      have gi : Gp (en o + n) (iv n (x :: r)) := Gp.iv n (Gp.up hg fa)
      have hk' : k < (iv n (x :: r)).length := by rw [iv_len]; exact hk
      have g1 := gi.far _ (List.getElem_mem hk')
      rw [iv_get (x :: r) n k hk hk'] at g1
      have g2 := fa _ (List.getElem_mem hk)
      dsimp only at g1
      rw [z]
      constructor
      · intro _; exact g2
      · intro _; omega
/-- Lemma B: what undoes X, behind what was moved over X, is what undoes the moved X -/
theorem bh_iv {X O : List H} {prev : Int} (hg : Gp prev X) (h : ∀ o ∈ O, Aw o X) : bh (iv 0 X) (cg (bh O (cg X))) = iv 0 (bh X (cg O)) := by
  have lb : ∀ (hs : List H) cs, (bh hs cs).length = hs.length := fun hs cs => List.length_map ..
  refine List.ext_getElem (by rw [lb, iv_len, iv_len, lb]) fun k h1 h2 => ?_
  have hk : k < X.length := by rw [lb, iv_len] at h1; exact h1
  have hkb : k < (bh X (cg O)).length := by rw [lb]; exact hk
  have hki : k < (iv 0 X).length := by rw [iv_len]; exact hk
  rw [iv_get (bh X (cg O)) 0 k hkb h2]
  have e1 : (bh (iv 0 X) (cg (bh O (cg X))))[k] = ⟨(iv 0 X)[k].at' + gb (iv 0 X)[k].at' (cg (bh O (cg X))), (iv 0 X)[k].old, (iv 0 X)[k].new⟩ := by simp [bh]
  have e2 : (bh X (cg O))[k] = ⟨X[k].at' + gb X[k].at' (cg O), X[k].old, X[k].new⟩ := by simp [bh]
  have e3 : (bh X (cg O)).take k = bh (X.take k) (cg O) := by unfold bh; rw [List.map_take]
  rw [e1, e2, e3, gr_bh, iv_get X 0 k hk hki]
  dsimp only
  have : gb (X[k].at' + 0 + gr (X.take k)) (cg (bh O (cg X))) = gb X[k].at' (cg O) := by
    unfold bh
    refine gb_iff O fun o ho => ⟨?_, rfl, rfl⟩
    have := gb_cross o X prev 0 hg (h o ho) k hk
    have e : en (⟨o.at' + gb o.at' (cg X), o.old, o.new⟩ : H) = en o + 0 + gb o.at' (cg X) := by unfold en; dsimp only; omega
    rw [e]; exact this
  rw [this]
  congr 1
  omega

/-! texts -/
theorem mid_dd (l : List ByteArray) (k i j : Nat) : mid (l.drop k) i j = mid l (k + i) (k + j) := by
  unfold mid; rw [List.drop_drop]; congr 1; omega
theorem mid_left (l m : List ByteArray) (i j : Nat) (h : j ≤ l.length) : mid (l ++ m) i j = mid l i j := by
  unfold mid
  by_cases hi : i ≤ l.length
  · rw [List.drop_append_of_le_length hi, List.take_append_of_le_length (by rw [List.length_drop]; omega)]
  · rw [show j - i = 0 by omega, List.take_zero, List.take_zero]
theorem mid_mid (t : List ByteArray) (k b i j : Nat) (h : j ≤ b - k) : mid (mid t k b) i j = mid t (k + i) (k + j) := by
  unfold mid
  rw [List.drop_take, List.take_take, List.drop_drop]
  congr 1
  omega
theorem has_at {s : List ByteArray} {x : H} {z : Int} {m : Nat} (hz : z = m) (hm : m + x.old.length ≤ s.length) (h : mid s m (m + x.old.length) = x.old) : Has s ⟨z, x.old, x.new⟩ := by
  subst hz
  refine ⟨by dsimp only; omega, by unfold en; dsimp only; omega, ?_⟩
  have e : (en (⟨(m : Int), x.old, x.new⟩ : H)).toNat = m + x.old.length := by unfold en; dsimp only; omega
  rw [e]
  simpa using h
theorem ap_skip (t : List ByteArray) (O : List H) (k e : Nat) (h1 : k ≤ e) (_h2 : e ≤ t.length) (h : ∀ o ∈ O, (e : Int) ≤ o.at') : ap t k O = mid t k e ++ ap t e O := by
  cases O with
  | nil => rw [ap, ap, mid_drop t k e h1]
  | cons o r =>
    have := h o (List.mem_cons_self ..)
    rw [ap, ap, ← mid_join t k e o.at'.toNat h1 (by omega)]
    simp [List.append_assoc]
/-- Lemma C1: a hunk that fits, moved over O, fits behind O -/
theorem fit_mv (t : List ByteArray) (x : H) (hx : Has t x) (O : List H) : ∀ (prev : Int) (k : Nat) (pre : List ByteArray) (n : Int), Gp prev O → (∀ o ∈ O, Has t o) → Aw x O → ((k : Int) ≤ prev + 1) → n = (pre.length : Int) - k → (k : Int) ≤ x.at' →
    Has (pre ++ ap t k O) ⟨x.at' + n + gb x.at' (cg O), x.old, x.new⟩ := by
  have h0 := hx.lo
  have h1 := hx.hi
  have h2 := hx.eq
  obtain ⟨a, ha⟩ : ∃ a : Nat, x.at' = a := ⟨x.at'.toNat, by omega⟩
  have hen : en x = ((a + x.old.length : Nat) : Int) := by unfold en; omega
  rw [hen, ha, Int.toNat_natCast, Int.toNat_natCast] at h2
  induction O with
  | nil =>
    intro prev k pre n _ _ _ hk hn hkx
    refine has_at (m := pre.length + (a - k)) (by simp only [cg, List.map_nil, gb]; omega) (by rw [ap, List.length_append, List.length_drop]; omega) ?_
    rw [ap, Nat.add_assoc, mid_pre, mid_dd]
    rw [show k + (a - k) = a by omega, show k + (a - k + x.old.length) = a + x.old.length by omega, h2]
  | cons o r ih =>
    intro prev k pre n hg hf haw hk hn hkx
    have ho := hf o (List.mem_cons_self ..)
    have o0 := ho.lo
    have o1 := ho.hi
    have eo : en o = o.at' + o.old.length := rfl
    have g1 := hg.1
    have lm : (mid t k o.at'.toNat).length = o.at'.toNat - k := mid_size t k _ (by omega)
    rcases haw o (List.mem_cons_self ..) with c | c
    · have lp : ((pre ++ mid t k o.at'.toNat ++ o.new).length : Int) = pre.length + (o.at' - k) + o.new.length := by
        rw [List.length_append, List.length_append, lm]; omega
      have := ih (en o) (en o).toNat (pre ++ mid t k o.at'.toNat ++ o.new) (n + (o.new.length - o.old.length)) hg.2 (fun y hy => hf y (List.mem_cons_of_mem _ hy)) (fun y hy => haw y (List.mem_cons_of_mem _ hy)) (by omega) (by rw [lp]; omega) (by omega)
      rw [gb_cons, if_pos c]
      have e : x.at' + n + ((o.new.length : Int) - o.old.length + gb x.at' (cg r)) = x.at' + (n + (o.new.length - o.old.length)) + gb x.at' (cg r) := by omega
      rw [e, ap]
      simpa [List.append_assoc] using this
    · rw [gb_far (far_all hg.2 c)]
      refine has_at (m := pre.length + (a - k)) (by omega) (by rw [ap, List.length_append, List.length_append, List.length_append, lm]; omega) ?_
      rw [ap, Nat.add_assoc, mid_pre, List.append_assoc, mid_left _ _ _ _ (by rw [lm]; omega), mid_mid _ _ _ _ _ (by omega)]
      rw [show k + (a - k) = a by omega, show k + (a - k + x.old.length) = a + x.old.length by omega, h2]
/-- .. whole -/
theorem fit_bh {t : List ByteArray} {X O : List H} (hO : Gp (-1) O) (fX : ∀ x ∈ X, Has t x) (fO : ∀ o ∈ O, Has t o) (h : ∀ x ∈ X, Aw x O) : ∀ y ∈ bh X (cg O), Has (ap t 0 O) y := by
  intro y hy
  obtain ⟨x, hx, rfl⟩ := List.mem_map.1 hy
  have := fit_mv t x (fX x hx) O (-1) 0 [] 0 hO fO (h x hx) (by omega) (by simp) (by have := (fX x hx).lo; omega)
  simpa using this

/-- both ways round, side by side -/
def Sq (t : List ByteArray) (O X : List H) : Prop := ∀ (prev : Int) (k : Nat) (pl pr : List ByteArray) (nl nr : Int), Gp prev O → Gp prev X → (∀ o ∈ O, Aw o X) → (∀ o ∈ O, Has t o) → (∀ x ∈ X, Has t x) → ((k : Int) ≤ prev + 1) → k ≤ t.length →
  nl = (pl.length : Int) - k → nr = (pr.length : Int) - k → ap (pl ++ ap t k O) pl.length (mv nl (cg O) X) = ap (pr ++ ap t k X) pr.length (mv nr (cg X) O)
theorem Sq.symm {t : List ByteArray} {O X : List H} (h : Sq t O X) : Sq t X O := fun prev k pl pr nl nr g1 g2 aw f1 f2 hk ht e1 e2 =>
  (h prev k pr pl nr nl g2 g1 (aw_symm aw) f2 f1 hk ht e2 e1).symm
theorem mv_cons {O : List H} {x : H} {r : List H} {n : Int} (h : ∀ o ∈ O, en x < o.at') : mv n (cg (x :: r)) O = mv (n + (x.new.length - x.old.length)) (cg r) O := by
  unfold mv
  refine List.map_congr_left fun o ho => ?_
  rw [gb_cons, if_pos (h o ho)]
  congr 1
  omega
theorem sq_step {t : List ByteArray} {O X : List H} {x : H} (hfar : ∀ o ∈ O, en x < o.at') (ih : Sq t O X) : Sq t O (x :: X) := by
  intro prev k pl pr nl nr gO gX aw fO fX hk ht e1 e2
  have hx := fX x (List.mem_cons_self ..)
  have x0 := hx.lo
  have x1 := hx.hi
  obtain ⟨b, hb⟩ : ∃ b : Nat, x.at' = b := ⟨x.at'.toNat, by omega⟩
  obtain ⟨e, he⟩ : ∃ e : Nat, en x = e := ⟨(en x).toNat, by unfold en; omega⟩
  have ee : en x = x.at' + x.old.length := rfl
  have g1 := gX.1
  have hkb : k ≤ b := by omega
  have hbe : e = b + x.old.length := by omega
  have z := gb_far hfar
  have lmb : (mid t k b).length = b - k := mid_size t k b (by omega)
  have lme : (mid t k e).length = e - k := mid_size t k e (by omega)
  have awX : ∀ o ∈ O, Aw o X := fun o ho y hy => aw o ho y (List.mem_cons_of_mem _ hy)
  -- the left side
  have L : ap (pl ++ ap t k O) pl.length (mv nl (cg O) (x :: X)) = mid t k b ++ x.new ++ ap ((pl ++ mid t k e) ++ ap t e O) (pl ++ mid t k e).length (mv nl (cg O) X) := by
    show ap _ _ (⟨x.at' + nl + gb x.at' (cg O), x.old, x.new⟩ :: mv nl (cg O) X) = _
    rw [ap, z]
    have a1 : (x.at' + nl + 0).toNat = pl.length + (b - k) := by omega
    have a2 : (en (⟨x.at' + nl + 0, x.old, x.new⟩ : H)).toNat = (pl ++ mid t k e).length := by unfold en; dsimp only; rw [List.length_append, lme]; omega
    dsimp only
    rw [a1, a2, mid_pre0]
    have s1 : (ap t k O).take (b - k) = mid t k b := by
      rw [ap_skip t O k b hkb (by omega) (fun o ho => by have := hfar o ho; omega), ← lmb, List.take_left']
      rfl
    have s2 : pl ++ ap t k O = (pl ++ mid t k e) ++ ap t e O := by
      rw [ap_skip t O k e (by omega) (by omega) (fun o ho => by have := hfar o ho; omega), List.append_assoc]
    rw [s1, s2]
  have R : ap (pr ++ ap t k (x :: X)) pr.length (mv nr (cg (x :: X)) O) = mid t k b ++ x.new ++ ap ((pr ++ mid t k b ++ x.new) ++ ap t e X) (pr ++ mid t k b ++ x.new).length (mv (nr + (x.new.length - x.old.length)) (cg X) O) := by
    have lp : ((pr ++ mid t k b ++ x.new).length : Int) = pr.length + (b - k) + x.new.length := by rw [List.length_append, List.length_append, lmb]; omega
    have s1 : pr ++ ap t k (x :: X) = (pr ++ mid t k b ++ x.new) ++ ap t e X := by rw [ap, hb, he, Int.toNat_natCast, Int.toNat_natCast]; simp [List.append_assoc]
    rw [mv_cons hfar, s1]
    rw [ap_skip _ (mv (nr + (x.new.length - x.old.length)) (cg X) O) pr.length (pr ++ mid t k b ++ x.new).length (by rw [List.length_append, List.length_append]; omega) (by rw [@List.length_append _ (pr ++ mid t k b ++ x.new) _]; omega) ?_]
    · congr 1
      have : (pr ++ mid t k b ++ x.new).length = pr.length + (mid t k b ++ x.new).length := by rw [List.length_append, List.length_append, List.length_append]; omega
      rw [this, List.append_assoc pr, List.append_assoc pr, mid_pre0, List.take_left']
      rfl
    · intro y hy
      obtain ⟨o, ho, rfl⟩ := List.mem_map.1 hy
      have := gb_low o X (en x) gX.2 (hfar o ho) (awX o ho)
      dsimp only
      omega
  rw [L, R]
  congr 1
  refine ih (en x) e (pl ++ mid t k e) (pr ++ mid t k b ++ x.new) nl (nr + (x.new.length - x.old.length)) (Gp.up gO hfar) gX.2 awX fO (fun y hy => fX y (List.mem_cons_of_mem _ hy)) (by omega) (by omega) ?_ ?_
  · rw [List.length_append, lme]; omega
  · rw [List.length_append, List.length_append, lmb]; omega
theorem sq_all (t : List ByteArray) : ∀ (m : Nat) (O X : List H), O.length + X.length = m → (∃ p, Gp p O) → (∃ p, Gp p X) → (∀ o ∈ O, Aw o X) → Sq t O X := by
  intro m
  induction m with
  | zero =>
    intro O X h _ _ _
    have h1 : O = [] := List.length_eq_zero_iff.1 (by omega)
    have h2 : X = [] := List.length_eq_zero_iff.1 (by omega)
    subst h1 h2
    intro prev k pl pr nl nr _ _ _ _ _ _ _ _ _
    simp [mv, ap]
  | succ m ih =>
    intro O X h ⟨p, gO⟩ ⟨p', gX⟩ aw
    cases X with
    | nil =>
      cases O with
      | nil => simp at h
      | cons o r => exact (sq_step (fun x hx => by cases hx) (ih r [] (by simpa using h) ⟨_, gO.2⟩ ⟨0, trivial⟩ (fun _ _ y hy => by cases hy)).symm).symm
    | cons x X =>
      cases O with
      | nil => exact sq_step (fun o ho => by cases ho) (ih [] X (by simpa using h) ⟨0, trivial⟩ ⟨_, gX.2⟩ (fun _ ho => by cases ho))
      | cons o r =>
        rcases aw o (List.mem_cons_self ..) x (List.mem_cons_self ..) with c | c
        · exact sq_step (far_all gO.2 c) (ih (o :: r) X (by simp at h ⊢; omega) ⟨_, gO⟩ ⟨_, gX.2⟩ (fun y hy z hz => aw y hy z (List.mem_cons_of_mem _ hz)))
        · exact (sq_step (far_all gX.2 c) (ih r (x :: X) (by simp at h ⊢; omega) ⟨_, gO.2⟩ ⟨_, gX⟩ (fun y hy => aw y (List.mem_cons_of_mem _ hy))).symm).symm
/-- Lemma C2: both ways lead to the same text -/
theorem ap_bh {t : List ByteArray} {O X : List H} (gO : Gp (-1) O) (gX : Gp (-1) X) (aw : ∀ o ∈ O, Aw o X) (fO : ∀ o ∈ O, Has t o) (fX : ∀ x ∈ X, Has t x) :
    ap (ap t 0 O) 0 (bh X (cg O)) = ap (ap t 0 X) 0 (bh O (cg X)) := by
  have := sq_all t _ O X rfl ⟨_, gO⟩ ⟨_, gX⟩ aw (-1) 0 [] [] 0 0 gO gX aw fO fX (by omega) (Nat.zero_le _) (by simp) (by simp)
  rw [bh_mv, bh_mv]
  simpa using this

/-! exchanged patches -/
/-- q, moved before p -/
def xa (p q : List H) : List H := bh q (cg (iv 0 p))
/-- p, moved behind it -/
def xb (p q : List H) : List H := bh p (cg (xa p q))
theorem iv_iv0 (p : List H) : iv 0 (iv 0 p) = p := iv_iv p 0 0 rfl
structure Ex (p q : List H) : Prop where
  vp : Vp p
  vq : Vp q
  nt : tch q (cg (iv 0 p)) = false
theorem Ex.gp {p q : List H} (h : Ex p q) : Gp (-1) p := ch_gp h.vp.ch
theorem Ex.gq {p q : List H} (h : Ex p q) : Gp (-1) q := ch_gp h.vq.ch
theorem Ex.back {p q : List H} (h : Ex p q) : bh (xa p q) (cg p) = q ∧ ∀ y ∈ xa p q, Aw y p := by
  have := bh_back (h.gp.iv 0) (tch_false.1 h.nt)
  rwa [iv_iv0] at this
/-- exchanged twice -/
theorem Ex.twice {p q : List H} (h : Ex p q) (va : Vp (xa p q)) (vb : Vp (xb p q)) : Ex (xa p q) (xb p q) ∧ xa (xa p q) (xb p q) = p ∧ xb (xa p q) (xb p q) = q := by
  obtain ⟨k1, k2⟩ := h.back
  obtain ⟨k3, k4⟩ := bh_back (ch_gp va.ch) (aw_symm k2)
  have e : xa (xa p q) (xb p q) = p := k3
  refine ⟨⟨va, vb, tch_false.2 k4⟩, e, ?_⟩
  show bh (xa p q) (cg (xa (xa p q) (xb p q))) = q
  rw [e, k1]
/-- what undoes them, exchanged -/
theorem Ex.inverse {p q : List H} (h : Ex p q) (vp : Vp (iv 0 p)) (vq : Vp (iv 0 q)) (va : Vp (xa p q)) (_vb : Vp (xb p q)) :
    Ex (iv 0 q) (iv 0 p) ∧ xa (iv 0 q) (iv 0 p) = iv 0 (xb p q) ∧ xb (iv 0 q) (iv 0 p) = iv 0 (xa p q) := by
  obtain ⟨k1, k2⟩ := h.back
  have e1 : xa (iv 0 q) (iv 0 p) = iv 0 (xb p q) := by
    have := bh_iv h.gp k2
    rw [k1] at this
    show bh (iv 0 p) (cg (iv 0 (iv 0 q))) = _
    rw [iv_iv0, this]; rfl
  refine ⟨⟨vq, vp, ?_⟩, e1, ?_⟩
  · rw [iv_iv0, tch_symm]; exact h.nt
  · show bh (iv 0 q) (cg (xa (iv 0 q) (iv 0 p))) = _
    rw [e1]
    have ga : Gp (-1) (xa p q) := ch_gp va.ch
    have b1 := bh_iv ga (aw_symm k2)
    rw [k1] at b1
    obtain ⟨-, b3⟩ := bh_back ga (aw_symm k2)
    have b2 := bh_back (X := iv 0 (xa p q)) (O := xb p q) (prev := -1) (ch_gp _vb.ch) (aw_symm b3)
    have b4 := b2.1
    rw [show bh (iv 0 (xa p q)) (cg (xb p q)) = iv 0 q from b1] at b4
    exact b4
/-- the same effect -/
theorem Ex.effect {p q : List H} {t : List ByteArray} (h : Ex p q) (va : Vp (xa p q)) (okp : Ok p t) (okq : Ok q (ap t 0 p)) :
    (∀ x ∈ xa p q, Has t x) ∧ (∀ x ∈ xb p q, Has (ap t 0 (xa p q)) x) ∧ ap (ap t 0 (xa p q)) 0 (xb p q) = ap (ap t 0 p) 0 q := by
  obtain ⟨k1, k2⟩ := h.back
  obtain ⟨u1, u2⟩ := undo0 okp
  have fa : ∀ x ∈ xa p q, Has t x := by
    have := fit_bh (t := ap t 0 p) (X := q) (O := iv 0 p) (h.gp.iv 0) okq.fit u1 (tch_false.1 h.nt)
    rwa [u2] at this
  have ga : Gp (-1) (xa p q) := ch_gp va.ch
  refine ⟨fa, fit_bh ga okp.fit fa (aw_symm k2), ?_⟩
  have := ap_bh h.gp ga (aw_symm k2) okp.fit fa
  rw [k1] at this
  exact this.symm
end Go.Proofs.Ytbgnckbgpiajjaa.Tp
namespace Go.Proofs.Ytbgnckbgpiajjaa.Tp
open Go.RowKit

/-- steps lead from a text to another: (0, _) keeps a line, (1, x) deletes x, (2, x) inserts x; behind the last step all is kept -/
inductive Run : List (Nat × ByteArray) → List ByteArray → List ByteArray → Prop
  | nil (t : List ByteArray) : Run [] t t
  | keep {y x : ByteArray} {s : List (Nat × ByteArray)} {t u : List ByteArray} : Run s t u → Run ((0, y) :: s) (x :: t) (x :: u)
  | del {x : ByteArray} {s : List (Nat × ByteArray)} {t u : List ByteArray} : Run s t u → Run ((1, x) :: s) (x :: t) u
  | ins {x : ByteArray} {s : List (Nat × ByteArray)} {t u : List ByteArray} : Run s t u → Run ((2, x) :: s) t (x :: u)

/-- the steps of both, one after the other -/
def comp : List (Nat × ByteArray) → List (Nat × ByteArray) → List (Nat × ByteArray)
  | [], q => q
  | x :: p, [] => x :: p
  | x :: p, y :: q =>
    if x.1 = 1 then x :: comp p (y :: q)
    else if y.1 = 2 then y :: comp (x :: p) q
    else if x.1 = 0 then y :: comp p q
    else if y.1 = 0 then x :: comp p q
    else comp p q
  termination_by p q => p.length + q.length

theorem comp_nil (q : List (Nat × ByteArray)) : comp [] q = q := by rw [comp]
theorem comp_nil' (p : List (Nat × ByteArray)) : comp p [] = p := by cases p <;> rw [comp]
theorem comp_cons (x y : Nat × ByteArray) (p q : List (Nat × ByteArray)) : comp (x :: p) (y :: q) =
    if x.1 = 1 then x :: comp p (y :: q) else if y.1 = 2 then y :: comp (x :: p) q else if x.1 = 0 then y :: comp p q else if y.1 = 0 then x :: comp p q else comp p q := by
  rw [comp]

theorem comp_run_le (n : Nat) : ∀ (p q : List (Nat × ByteArray)) (t m u : List ByteArray), p.length + q.length ≤ n → Run p t m → Run q m u → Run (comp p q) t u := by
  induction n with
  | zero =>
    intro p q t m u hn hp hq
    have h1 : p = [] := List.length_eq_zero_iff.1 (by omega)
    have h2 : q = [] := List.length_eq_zero_iff.1 (by omega)
    subst h1 h2
    cases hp; cases hq
    rw [comp_nil]; exact Run.nil _
  | succ n ih =>
    intro p q t m u hn hp hq
    cases hp with
    | nil => rw [comp_nil]; exact hq
    | del hp' =>
      cases hq with
      | nil => rw [comp_nil']; exact Run.del hp'
      | keep hq' => rw [comp_cons, if_pos rfl]; exact Run.del (ih _ _ _ _ _ (by simp only [List.length_cons] at hn ⊢; omega) hp' (Run.keep hq'))
      | del hq' => rw [comp_cons, if_pos rfl]; exact Run.del (ih _ _ _ _ _ (by simp only [List.length_cons] at hn ⊢; omega) hp' (Run.del hq'))
      | ins hq' => rw [comp_cons, if_pos rfl]; exact Run.del (ih _ _ _ _ _ (by simp only [List.length_cons] at hn ⊢; omega) hp' (Run.ins hq'))
    | keep hp' =>
      cases hq with
      | nil => rw [comp_nil']; exact Run.keep hp'
      | keep hq' => rw [comp_cons, if_neg (by simp), if_neg (by simp), if_pos rfl]; exact Run.keep (ih _ _ _ _ _ (by simp only [List.length_cons] at hn ⊢; omega) hp' hq')
      | del hq' => rw [comp_cons, if_neg (by simp), if_neg (by simp), if_pos rfl]; exact Run.del (ih _ _ _ _ _ (by simp only [List.length_cons] at hn ⊢; omega) hp' hq')
      | ins hq' => rw [comp_cons, if_neg (by simp), if_pos rfl]; exact Run.ins (ih _ _ _ _ _ (by simp only [List.length_cons] at hn ⊢; omega) (Run.keep hp') hq')
    | ins hp' =>
      cases hq with
      | nil => rw [comp_nil']; exact Run.ins hp'
      | keep hq' => rw [comp_cons, if_neg (by simp), if_neg (by simp), if_neg (by simp), if_pos rfl]; exact Run.ins (ih _ _ _ _ _ (by simp only [List.length_cons] at hn ⊢; omega) hp' hq')
      | del hq' => rw [comp_cons, if_neg (by simp), if_neg (by simp), if_neg (by simp), if_neg (by simp)]; exact ih _ _ _ _ _ (by simp only [List.length_cons] at hn ⊢; omega) hp' hq'
      | ins hq' => rw [comp_cons, if_neg (by simp), if_pos rfl]; exact Run.ins (ih _ _ _ _ _ (by simp only [List.length_cons] at hn ⊢; omega) (Run.ins hp') hq')
/-- composition has the effect of both -/
theorem comp_run {p q : List (Nat × ByteArray)} {t m u : List ByteArray} (hp : Run p t m) (hq : Run q m u) : Run (comp p q) t u := comp_run_le _ p q t m u (Nat.le_refl _) hp hq

/-- how many steps are no keeps -/
def cs (s : List (Nat × ByteArray)) : Nat := (s.filter (fun x => x.1 != 0)).length
theorem cs_cons (x : Nat × ByteArray) (s : List (Nat × ByteArray)) : cs (x :: s) = (if x.1 = 0 then 0 else 1) + cs s := by
  unfold cs
  by_cases h : x.1 = 0
  · rw [List.filter_cons_of_neg (by simp [h]), if_pos h, Nat.zero_add]
  · rw [List.filter_cons_of_pos (by simp [h]), if_neg h, List.length_cons, Nat.add_comm]
theorem comp_cs_le (n : Nat) : ∀ (p q : List (Nat × ByteArray)), p.length + q.length ≤ n → cs (comp p q) ≤ cs p + cs q := by
  induction n with
  | zero =>
    intro p q hn
    have h1 : p = [] := List.length_eq_zero_iff.1 (by omega)
    subst h1
    rw [comp_nil]; omega
  | succ n ih =>
    intro p q hn
    cases p with
    | nil => rw [comp_nil]; omega
    | cons x p =>
      cases q with
      | nil => rw [comp_nil']; omega
      | cons y q =>
        simp only [List.length_cons] at hn
        have a1 := ih p (y :: q) (by simp only [List.length_cons]; omega)
        have a2 := ih (x :: p) q (by simp only [List.length_cons]; omega)
        have a3 := ih p q (by omega)
        rw [comp_cons]
        repeat (first | split | (simp only [cs_cons] at *; split at * <;> omega) | (simp only [cs_cons] at *; omega))
theorem comp_cs (p q : List (Nat × ByteArray)) : cs (comp p q) ≤ cs p + cs q := comp_cs_le _ p q (Nat.le_refl _)

/-- the patch of steps that lead from t to u -/
theorem run_walk {t u : List ByteArray} (htu : okD t u) (s : List (Nat × ByteArray)) : ∀ (out : List (Nat × ByteArray)) (i j : Nat) (fa fb : Nat) (H : List (Dif.Hk ByteArray)), i ≤ t.length → j ≤ u.length → Run s (t.drop i) (u.drop j) → Pm t u fa fb i j H out → Gd t u fa fb (kept out).length H →
    ∃ i j fa fb H, i ≤ t.length ∧ j ≤ u.length ∧ t.drop i = u.drop j ∧ Pm t u fa fb i j H (out ++ s) ∧ Gd t u fa fb (kept (out ++ s)).length H := by
  induction s with
  | nil =>
    intro out i j fa fb H hi hj hr hP hG
    rw [List.append_nil]
    refine ⟨i, j, fa, fb, H, hi, hj, ?_, hP, hG⟩
    generalize t.drop i = a at hr
    generalize u.drop j = b at hr
    cases hr; rfl
  | cons x s ih =>
    intro out i j fa fb H hi hj hr hP hG
    have ea : out ++ x :: s = (out ++ [x]) ++ s := by rw [List.append_assoc]; rfl
    rw [ea]
    generalize hA : t.drop i = A at hr
    generalize hB : u.drop j = B at hr
    cases hr with
    | @keep y z _ A' B' hr' =>
      have li : i < t.length := by
        rcases Nat.lt_or_ge i t.length with h | h
        · exact h
        · rw [List.drop_eq_nil_of_le h] at hA; cases hA
      have lj : j < u.length := by
        rcases Nat.lt_or_ge j u.length with h | h
        · exact h
        · rw [List.drop_eq_nil_of_le h] at hB; cases hB
      rw [List.drop_eq_getElem_cons li] at hA
      rw [List.drop_eq_getElem_cons lj] at hB
      injection hA with a1 a2
      injection hB with b1 b2
      have he : t[i] = u[j] := by rw [a1, b1]
      subst a2 b2
      obtain ⟨w1, w2, w3, w4, w5⟩ := hG.with htu hP.hi hP.hj hi hj
      refine ih _ (i + 1) (j + 1) _ _ _ (by omega) (by omega) hr' (hP.keep y) ⟨w1, by omega, w3, ?_, ?_⟩
      · rw [← apTo_more t _ i (i + 1) (Nat.le_succ _) (-1) 0 (by omega) w1 w2, w4, mid_next t i i (Nat.le_refl _) li, mid_nil, List.nil_append, he, List.take_succ_eq_append_getElem lj]
      · rw [kept_snoc, if_pos rfl, List.length_append]
        simp only [List.length_singleton]
        omega
    | @del z _ A' _ hr' =>
      have li : i < t.length := by
        rcases Nat.lt_or_ge i t.length with h | h
        · exact h
        · rw [List.drop_eq_nil_of_le h] at hA; cases hA
      rw [List.drop_eq_getElem_cons li] at hA
      injection hA with a1 a2
      subst a1 a2 hB
      exact ih _ (i + 1) j _ _ _ (by omega) hj hr' (hP.del li) (by rw [kept_snoc, if_neg (by simp), List.append_nil]; exact hG)
    | @ins z _ _ B' hr' =>
      have lj : j < u.length := by
        rcases Nat.lt_or_ge j u.length with h | h
        · exact h
        · rw [List.drop_eq_nil_of_le h] at hB; cases hB
      rw [List.drop_eq_getElem_cons lj] at hB
      injection hB with b1 b2
      subst b1 b2 hA
      exact ih _ i (j + 1) _ _ _ hi (by omega) hr' (hP.ins lj) (by rw [kept_snoc, if_neg (by simp), List.append_nil]; exact hG)

theorem cs_kept (s : List (Nat × ByteArray)) : cs s + (kept s).length = s.length := by
  induction s with
  | nil => rfl
  | cons x s ih =>
    have e : (kept (x :: s)).length = (if x.1 = 0 then 1 else 0) + (kept s).length := by
      unfold kept
      by_cases h : x.1 = 0
      · rw [List.filter_cons_of_pos (by simp [h]), if_pos h, List.map_cons, List.length_cons, Nat.add_comm]
      · rw [List.filter_cons_of_neg (by simp [h]), if_neg h, Nat.zero_add]
    rw [cs_cons, e, List.length_cons]
    split <;> omega
theorem run_size {s : List (Nat × ByteArray)} {t u : List ByteArray} (h : Run s t u) : cs s + 2 * (kept s).length ≤ t.length + u.length := by
  have k2 : ∀ (x : Nat × ByteArray) (s : List (Nat × ByteArray)), (kept (x :: s)).length = (if x.1 = 0 then 1 else 0) + (kept s).length := by
    intro x s
    have a := cs_kept (x :: s)
    have b := cs_kept s
    rw [cs_cons, List.length_cons] at a
    split <;> rename_i h <;> simp only [h, if_true, if_false] at a <;> omega
  induction h with
  | nil => simp [cs, kept]
  | keep _ ih => rw [cs_cons, k2, if_pos rfl, if_pos rfl, List.length_cons, List.length_cons]; omega
  | del _ ih => rw [cs_cons, k2, if_neg (by simp), if_neg (by simp), List.length_cons]; omega
  | ins _ ih => rw [cs_cons, k2, if_neg (by simp), if_neg (by simp), List.length_cons]; omega

/-- steps that lead from t to u: their patch applies to t and leads to u -/
theorem run_ok {t u : List ByteArray} (htu : okD t u) {s : List (Nat × ByteArray)} (hr : Run s t u) : Ok (Dif.pof s) t ∧ ap t 0 (Dif.pof s) = u := by
  obtain ⟨i, j, fa, fb, H, hi, hj, hd, hP, hG⟩ := run_walk htu s [] 0 0 0 0 [] (Nat.zero_le _) (Nat.zero_le _) hr (Pm.start t u) ⟨trivial, by simp [lastE], fun h hh => (by cases hh), by rw [apTo, mid_nil, List.take_zero], by simp [co, kept]⟩
  obtain ⟨w1, w2, w3, w4, w5⟩ := hG.with htu hP.hi hP.hj hi hj
  rw [List.nil_append] at hP
  have e : Dif.pof s = H ++ pend t u fa fb i j := hP.hs
  have k1 := hP.len
  have k2 := hP.hi
  have la := len_ok htu.1
  have lb := len_ok htu.2
  have k3 := pend_len t u fa fb i j
  have hm : mid t i t.length = t.drop i := by unfold mid; rw [List.take_of_length_le (by rw [List.length_drop]; omega)]
  have ea : ap t 0 (Dif.pof s) = u := by
    rw [e, ← apTo_all, ← apTo_more t _ i t.length hi (-1) 0 (by omega) w1 w2, w4, hm, hd, List.take_append_drop]
  refine ⟨⟨⟨by rw [e, List.length_append]; omega, by rw [e]; exact w1⟩, htu.1, by rw [e]; exact w3, by rw [ea]; exact lb⟩, ea⟩

/-! the steps of a patch; b: what is inserted goes ahead of what is deleted -/
def ds (l : List ByteArray) : List (Nat × ByteArray) := l.map fun x => (1, x)
def is (l : List ByteArray) : List (Nat × ByteArray) := l.map fun x => (2, x)
def ks (n : Nat) : List (Nat × ByteArray) := List.replicate n (0, ByteArray.empty)
def hkS (b : Bool) (h : H) : List (Nat × ByteArray) := if b then is h.new ++ ds h.old else ds h.old ++ is h.new
def sp (b : Bool) : Nat → List H → List (Nat × ByteArray)
  | _, [] => []
  | k, h :: r => ks (h.at'.toNat - k) ++ (hkS b h ++ sp b (en h).toNat r)

theorem run_keeps (x : List ByteArray) {s : List (Nat × ByteArray)} {t u : List ByteArray} (h : Run s t u) : ∀ n, n = x.length → Run (ks n ++ s) (x ++ t) (x ++ u) := by
  induction x with
  | nil => intro n hn; subst hn; exact h
  | cons a x ih => intro n hn; subst hn; exact Run.keep (ih _ rfl)
theorem run_dels (x : List ByteArray) {s : List (Nat × ByteArray)} {t u : List ByteArray} (h : Run s t u) : Run (ds x ++ s) (x ++ t) u := by
  induction x with
  | nil => exact h
  | cons a x ih => exact Run.del ih
theorem run_inss (x : List ByteArray) {s : List (Nat × ByteArray)} {t u : List ByteArray} (h : Run s t u) : Run (is x ++ s) t (x ++ u) := by
  induction x with
  | nil => exact h
  | cons a x ih => exact Run.ins ih
/-- the steps of a patch that applies have its effect -/
theorem sp_run (b : Bool) (t : List ByteArray) (hs : List H) : ∀ (prev : Int) (k : Nat), Ch prev hs → (∀ h ∈ hs, Has t h) → ((k : Int) ≤ prev + 1) → k ≤ t.length → Run (sp b k hs) (t.drop k) (ap t k hs) := by
  induction hs with
  | nil => intro prev k _ _ _ _; exact Run.nil _
  | cons h r ih =>
    intro prev k hch hfit hp hk
    obtain ⟨hok, hr⟩ := hch
    have hh := hfit h (List.mem_cons_self ..)
    have g1 := hok.gap; have g2 := hok.lo; have g3 := hh.hi
    have e1 : (en h : Int) = h.at' + h.old.length := rfl
    have hR := ih (en h) (en h).toNat hr (fun x hx => hfit x (List.mem_cons_of_mem _ hx)) (by omega) (by omega)
    have lm := mid_size t k h.at'.toNat (by omega)
    have d1 : t.drop k = mid t k h.at'.toNat ++ (h.old ++ t.drop (en h).toNat) := by
      rw [← hh.eq]
      unfold mid
      have c1 : t.drop h.at'.toNat = (t.drop h.at'.toNat).take ((en h).toNat - h.at'.toNat) ++ t.drop (en h).toNat := by
        have := (List.take_append_drop ((en h).toNat - h.at'.toNat) (t.drop h.at'.toNat)).symm
        rw [List.drop_drop, show h.at'.toNat + ((en h).toNat - h.at'.toNat) = (en h).toNat by omega] at this
        exact this
      have c2 : t.drop k = (t.drop k).take (h.at'.toNat - k) ++ t.drop h.at'.toNat := by
        have := (List.take_append_drop (h.at'.toNat - k) (t.drop k)).symm
        rw [List.drop_drop, show k + (h.at'.toNat - k) = h.at'.toNat by omega] at this
        exact this
      rw [← c1]; exact c2
    rw [d1]
    unfold sp ap
    rw [List.append_assoc]
    refine run_keeps _ ?_ _ lm.symm
    unfold hkS
    cases b
    · rw [if_neg (by simp), List.append_assoc]
      exact run_dels _ (run_inss _ hR)
    · rw [if_pos rfl, List.append_assoc]
      exact run_inss _ (run_dels _ hR)
theorem sp_ok (b : Bool) {t : List ByteArray} {hs : List H} (h : Ok hs t) : Run (sp b 0 hs) t (ap t 0 hs) := sp_run b t hs (-1) 0 h.vp.ch h.fit (by omega) (Nat.zero_le _)

/-! the patch of the steps of a patch is the patch -/
theorem pst_keeps (n : Nat) : ∀ (hs : List H) (k : Nat) (o : Bool), (ks n).foldl Dif.pst ⟨hs, k, o⟩ = ⟨hs, k + n, if n = 0 then o else false⟩ := by
  induction n with
  | zero => intro hs k o; rfl
  | succ n ih =>
    intro hs k o
    have e : (ks (n + 1)).foldl Dif.pst ⟨hs, k, o⟩ = (ks n).foldl Dif.pst ⟨hs, k + 1, false⟩ := rfl
    rw [e, ih, ite_self, if_neg (Nat.succ_ne_zero n), show k + 1 + n = k + (n + 1) by omega]
theorem pst_dels (l : List ByteArray) : ∀ (hs : List H) (a : Int) (x y : List ByteArray) (k : Nat), (ds l).foldl Dif.pst ⟨hs ++ [⟨a, x, y⟩], k, true⟩ = ⟨hs ++ [⟨a, x ++ l, y⟩], k + l.length, true⟩ := by
  induction l with
  | nil => intro hs a x y k; simp [ds]
  | cons z l ih =>
    intro hs a x y k
    have e : (ds (z :: l)).foldl Dif.pst ⟨hs ++ [⟨a, x, y⟩], k, true⟩ = (ds l).foldl Dif.pst ⟨Dif.onLast (fun h => { h with old := h.old ++ [z] }) (hs ++ [⟨a, x, y⟩]), k + 1, true⟩ := rfl
    rw [e, onLast_snoc, ih, List.append_assoc, List.length_cons]
    simp only [List.singleton_append, Nat.add_comm, Nat.add_left_comm]
theorem pst_inss (l : List ByteArray) : ∀ (hs : List H) (a : Int) (x y : List ByteArray) (k : Nat), (is l).foldl Dif.pst ⟨hs ++ [⟨a, x, y⟩], k, true⟩ = ⟨hs ++ [⟨a, x, y ++ l⟩], k, true⟩ := by
  induction l with
  | nil => intro hs a x y k; simp [is]
  | cons z l ih =>
    intro hs a x y k
    have e : (is (z :: l)).foldl Dif.pst ⟨hs ++ [⟨a, x, y⟩], k, true⟩ = (is l).foldl Dif.pst ⟨Dif.onLast (fun h => { h with new := h.new ++ [z] }) (hs ++ [⟨a, x, y⟩]), k, true⟩ := rfl
    rw [e, onLast_snoc, ih, List.append_assoc, List.singleton_append]
theorem pst_open (hs : List H) (k : Nat) (x : Nat × ByteArray) (s : List (Nat × ByteArray)) (h : x.1 ≠ 0) : (x :: s).foldl Dif.pst ⟨hs, k, false⟩ = (x :: s).foldl Dif.pst ⟨hs ++ [⟨(k : Int), [], []⟩], k, true⟩ := by
  have e : Dif.pst ⟨hs, k, false⟩ x = Dif.pst ⟨hs ++ [⟨(k : Int), [], []⟩], k, true⟩ x := by
    unfold Dif.pst
    rw [if_neg h, if_neg h]
    rfl
  rw [List.foldl_cons, List.foldl_cons, e]
theorem pst_hk (b : Bool) (hs : List H) (h : H) (k : Nat) (hk : h.at' = k) (hne : 0 < h.old.length + h.new.length) : (hkS b h).foldl Dif.pst ⟨hs, k, false⟩ = ⟨hs ++ [h], k + h.old.length, true⟩ := by
  have e0 : (hkS b h).foldl Dif.pst ⟨hs, k, false⟩ = (hkS b h).foldl Dif.pst ⟨hs ++ [⟨(k : Int), [], []⟩], k, true⟩ := by
    have hx : ∀ x ∈ hkS b h, x.1 ≠ 0 := by
      intro x hx
      unfold hkS ds is at hx
      split at hx <;> rcases List.mem_append.1 hx with hx | hx <;> obtain ⟨y, -, rfl⟩ := List.mem_map.1 hx <;> simp
    have hl : 0 < (hkS b h).length := by
      unfold hkS ds is
      split <;> simp only [List.length_append, List.length_map] <;> omega
    cases hS : hkS b h with
    | nil => rw [hS] at hl; simp at hl
    | cons x s => exact pst_open hs k x s (hx x (by rw [hS]; exact List.mem_cons_self ..))
  rw [e0]
  obtain ⟨a, x, y⟩ := h
  dsimp only at hk
  subst hk
  unfold hkS
  cases b
  · rw [if_neg (by simp), List.foldl_append, pst_dels, pst_inss, List.nil_append, List.nil_append]
  · rw [if_pos rfl, List.foldl_append, pst_inss, pst_dels, List.nil_append, List.nil_append]
theorem sp_fold (b : Bool) (r : List H) : ∀ (hs : List H) (prev : Int) (k : Nat) (o : Bool), Ch prev r → ((k : Int) ≤ prev + 1) → (o = true → (k : Int) ≤ prev) → ((sp b k r).foldl Dif.pst ⟨hs, k, o⟩).hs = hs ++ r := by
  induction r with
  | nil => intro hs prev k o _ _ _; simp [sp]
  | cons h r ih =>
    intro hs prev k o hch hp ho
    obtain ⟨hok, hr⟩ := hch
    have g1 := hok.gap; have g2 := hok.lo; have g4 := hok.some'
    have e1 : (en h : Int) = h.at' + h.old.length := rfl
    unfold sp
    rw [List.foldl_append, pst_keeps, List.foldl_append]
    have eo : (if h.at'.toNat - k = 0 then o else false) = false := by
      by_cases hz : h.at'.toNat - k = 0
      · rw [if_pos hz]
        cases o
        · rfl
        · have := ho rfl; omega
      · rw [if_neg hz]
    rw [eo, pst_hk b hs h _ (by omega) (by omega), show k + (h.at'.toNat - k) + h.old.length = (en h).toNat by omega, ih (hs ++ [h]) (en h) _ _ hr (by omega) (fun _ => by omega), List.append_assoc]
    rfl
/-- the patch of its steps -/
theorem sp_pof (b : Bool) {hs : List H} (h : Vp hs) : Dif.pof (sp b 0 hs) = hs := by
  have := sp_fold b hs [] (-1) 0 false h.ch (by omega) (fun e => by cases e)
  rw [List.nil_append] at this
  exact this

/-! the costs -/
theorem cs_app (s s' : List (Nat × ByteArray)) : cs (s ++ s') = cs s + cs s' := by unfold cs; rw [List.filter_append, List.length_append]
theorem cs_keeps (n : Nat) : cs (ks n) = 0 := by
  induction n with
  | zero => rfl
  | succ n ih =>
    have e : ks (n + 1) = (0, ByteArray.empty) :: ks n := rfl
    rw [e, cs_cons, ih]; rfl
theorem cs_dels (l : List ByteArray) : cs (ds l) = l.length := by
  induction l with
  | nil => rfl
  | cons x l ih =>
    have e : ds (x :: l) = (1, x) :: ds l := rfl
    rw [e, cs_cons, ih, if_neg (by simp), List.length_cons, Nat.add_comm]
theorem cs_inss (l : List ByteArray) : cs (is l) = l.length := by
  induction l with
  | nil => rfl
  | cons x l ih =>
    have e : is (x :: l) = (2, x) :: is l := rfl
    rw [e, cs_cons, ih, if_neg (by simp), List.length_cons, Nat.add_comm]
theorem sp_cs (b : Bool) (hs : List H) : ∀ k, cs (sp b k hs) = co hs := by
  induction hs with
  | nil => intro k; rfl
  | cons h r ih =>
    intro k
    unfold sp co
    rw [cs_app, cs_keeps, cs_app, ih]
    unfold hkS
    split <;> rw [cs_app, cs_dels, cs_inss] <;> omega
theorem co_last (f : H → H) (n : Nat) (hf : ∀ h : H, (f h).old.length + (f h).new.length = h.old.length + h.new.length + n) (hs : List H) (h : H) : co (Dif.onLast f (hs ++ [h])) = co (hs ++ [h]) + n := by
  rw [onLast_snoc, co_app, co_app]
  have := hf h
  simp only [co]
  omega
theorem pst_cs (s : List (Nat × ByteArray)) : ∀ (z : Dif.St ByteArray), (z.open' = true → z.hs ≠ []) → co (s.foldl Dif.pst z).hs = co z.hs + cs s := by
  induction s with
  | nil => intro z _; rfl
  | cons x s ih =>
    intro z hz
    rw [List.foldl_cons, cs_cons]
    by_cases h0 : x.1 = 0
    · have e : Dif.pst z x = ⟨z.hs, z.at' + 1, false⟩ := by unfold Dif.pst; rw [if_pos h0]
      rw [e, ih _ (fun h => by cases h), if_pos h0]; simp
    · have hb : ∃ m q, (if z.open' then z.hs else z.hs ++ [⟨(z.at' : Int), [], []⟩]) = m ++ [q] ∧ co (m ++ [q]) = co z.hs := by
        cases ho : z.open'
        · exact ⟨z.hs, _, rfl, by rw [co_app]; rfl⟩
        · have := hz ho
          exact ⟨z.hs.dropLast, z.hs.getLast this, (List.dropLast_concat_getLast this).symm, by rw [List.dropLast_concat_getLast]⟩
      obtain ⟨m, q, e1, e2⟩ := hb
      rw [if_neg h0]
      by_cases h1 : x.1 = 1
      · have e : Dif.pst z x = ⟨Dif.onLast (fun h => { h with old := h.old ++ [x.2] }) (if z.open' then z.hs else z.hs ++ [⟨(z.at' : Int), [], []⟩]), z.at' + 1, true⟩ := by unfold Dif.pst; rw [if_neg h0, if_pos h1]
        rw [e, e1, ih _ (fun _ => by rw [onLast_snoc]; simp), co_last _ 1 (fun h => by simp only [List.length_append, List.length_singleton]; omega), e2]; omega
      · have e : Dif.pst z x = ⟨Dif.onLast (fun h => { h with new := h.new ++ [x.2] }) (if z.open' then z.hs else z.hs ++ [⟨(z.at' : Int), [], []⟩]), z.at', true⟩ := by unfold Dif.pst; rw [if_neg h0, if_neg h1]
        rw [e, e1, ih _ (fun _ => by rw [onLast_snoc]; simp), co_last _ 1 (fun h => by simp only [List.length_append, List.length_singleton]; omega), e2]; omega
theorem pof_cs (s : List (Nat × ByteArray)) : co (Dif.pof s) = cs s := by
  have := pst_cs s ⟨[], 0, false⟩ (fun h => by cases h)
  unfold Dif.pof
  rw [this]; simp [co]

/-! what the promises ask of composition -/
/-- the composition of p and q -/
def cm (p q : List H) : List H := Dif.pof (comp (sp false 0 p) (sp true 0 q))
/-- it has the effect of both, and costs no more than both -/
theorem cm_ok {p q : List H} {t : List ByteArray} (hp : Ok p t) (hq : Ok q (ap t 0 p)) (h : okD t (ap (ap t 0 p) 0 q)) : Ok (cm p q) t ∧ ap t 0 (cm p q) = ap (ap t 0 p) 0 q :=
  run_ok h (comp_run (sp_ok false hp) (sp_ok true hq))
theorem cm_co (p q : List H) : co (cm p q) ≤ co p + co q := by
  unfold cm
  rw [pof_cs]
  have := comp_cs (sp false 0 p) (sp true 0 q)
  rw [sp_cs, sp_cs] at this
  exact this
/-- the empty patch changes nothing -/
theorem cm_empty {p : List H} (h : Vp p) : cm p [] = p := by
  unfold cm
  rw [show sp true 0 [] = [] from rfl, comp_nil', sp_pof false h]
theorem cm_empty' {p : List H} (h : Vp p) : cm [] p = p := by
  unfold cm
  rw [show sp false 0 [] = [] from rfl, comp_nil, sp_pof true h]
end Go.Proofs.Ytbgnckbgpiajjaa.Tp
namespace Go.Proofs.Ytbgnckbgpiajjaa.Tp
open Go.RowKit

/-- the lines that a patch inserts ahead of the line i of its old text -/
def vi : List H → Nat → List ByteArray
  | [], _ => []
  | h :: r, i => if h.at' = i then h.new else vi r i
/-- the line i of its old text, if the patch deletes it -/
def vd : List H → Nat → Option ByteArray
  | [], _ => none
  | h :: r, i => if h.at' ≤ i ∧ (i : Int) < en h then h.old[i - h.at'.toNat]? else vd r i
theorem v_lo (K : List H) : ∀ (prev : Int) (i : Nat), Gp prev K → (i : Int) ≤ prev → vi K i = [] ∧ vd K i = none := by
  induction K with
  | nil => intro prev i _ _; exact ⟨rfl, rfl⟩
  | cons h r ih =>
    intro prev i hch hi
    obtain ⟨g1, hr⟩ := hch
    have e1 : (en h : Int) = h.at' + h.old.length := rfl
    unfold vi vd
    rw [if_neg (by omega), if_neg (by omega)]
    exact ih (en h) i hr (by omega)
/-- what is done at one place -/
def bl (a c : Nat) (ins : List ByteArray) (d : Option ByteArray) : List (Nat × ByteArray) := ins.map (fun x => (a, x)) ++ [match d with | some x => (c, x) | none => (0, ByteArray.empty)]
/-- the steps at n places from k on -/
def st (a c : Nat) (K : List H) : Nat → Nat → List (Nat × ByteArray)
  | _, 0 => []
  | k, n + 1 => bl a c (vi K k) (vd K k) ++ st a c K (k + 1) n
theorem st_add (a c : Nat) (K : List H) (m : Nat) : ∀ (k n : Nat), st a c K k (m + n) = st a c K k m ++ st a c K (k + m) n := by
  induction m with
  | zero => intro k n; rw [Nat.zero_add]; rfl
  | succ m ih => intro k n; rw [show m + 1 + n = (m + n) + 1 by omega, st, st, ih, List.append_assoc, show k + 1 + m = k + (m + 1) by omega]
theorem st_keeps (a c : Nat) (K : List H) (m : Nat) : ∀ (k : Nat), (∀ i, k ≤ i → i < k + m → vi K i = [] ∧ vd K i = none) → st a c K k m = ks m := by
  induction m with
  | zero => intro k _; rfl
  | succ m ih =>
    intro k h
    obtain ⟨h1, h2⟩ := h k (Nat.le_refl _) (by omega)
    rw [st, h1, h2, ih (k + 1) (fun i hi hj => h i (by omega) (by omega))]
    rfl
theorem st_same (a c : Nat) (K L : List H) (m : Nat) : ∀ (k : Nat), (∀ i, k ≤ i → i < k + m → vi K i = vi L i ∧ vd K i = vd L i) → st a c K k m = st a c L k m := by
  induction m with
  | zero => intro k _; rfl
  | succ m ih =>
    intro k h
    obtain ⟨h1, h2⟩ := h k (Nat.le_refl _) (by omega)
    rw [st, st, h1, h2, ih (k + 1) (fun i hi hj => h i (by omega) (by omega))]
theorem st_dels (a c : Nat) (K : List H) (l : List ByteArray) : ∀ (k : Nat), (∀ i (hi : i < l.length), vi K (k + i) = [] ∧ vd K (k + i) = some l[i]) → st a c K k l.length = l.map (fun x => (c, x)) := by
  induction l with
  | nil => intro k _; rfl
  | cons x l ih =>
    intro k h
    obtain ⟨h1, h2⟩ := h 0 (by simp)
    rw [List.length_cons, st, show vi K k = [] from h1, show vd K k = some x from h2, ih (k + 1) (fun i hi => by
      have := h (i + 1) (by simp only [List.length_cons]; omega)
      rw [show k + 1 + i = k + (i + 1) by omega]
      exact this)]
    rfl
/-- the steps of a patch seen from its old text: a, c are the codes of what it inserts and of what it deletes -/
def sq (a c : Nat) : Nat → List H → List (Nat × ByteArray)
  | _, [] => []
  | k, h :: r => ks (h.at'.toNat - k) ++ (h.new.map (fun x => (a, x)) ++ (h.old.map (fun x => (c, x)) ++ sq a c (en h).toNat r))
theorem st_hunk (a c : Nat) (h : H) (r : List H) (prev : Int) (hch : Gp prev (h :: r)) (hp : 0 ≤ prev + 1) (m : Nat) : st a c (h :: r) h.at'.toNat (h.old.length + (m + 1)) = h.new.map (fun x => (a, x)) ++ (h.old.map (fun x => (c, x)) ++ st a c r (en h).toNat (m + 1)) := by
  obtain ⟨g1, hr⟩ := hch
  have g2 : 0 ≤ h.at' := by omega
  have e1 : (en h : Int) = h.at' + h.old.length := rfl
  have ee : (en h).toNat = h.at'.toNat + h.old.length := by omega
  have far : ∀ i, h.at'.toNat < i → (en h).toNat ≤ i → vi (h :: r) i = vi r i ∧ vd (h :: r) i = vd r i := by
    intro i h1 h2
    unfold vi vd
    rw [if_neg (by omega), if_neg (by omega)]
    exact ⟨by cases r <;> rfl, by cases r <;> rfl⟩
  have v0 : vi (h :: r) h.at'.toNat = h.new := by unfold vi; rw [if_pos (by omega)]
  cases ho : h.old with
  | nil =>
    rw [ho] at e1 ee
    simp only [List.length_nil] at e1 ee ⊢
    have v1 : vd (h :: r) h.at'.toNat = vd r h.at'.toNat := by
      rw [vd, if_neg (by omega)]
    obtain ⟨w1, w2⟩ := v_lo r (en h) h.at'.toNat hr (by omega)
    have ee' : (en h).toNat = h.at'.toNat := by omega
    rw [Nat.zero_add, st, v0, v1, ee', st, w1, w2, List.map_nil, List.nil_append, st_same a c (h :: r) r m (h.at'.toNat + 1) (fun i hi hj => far i (by omega) (by omega))]
    unfold bl
    rw [List.append_assoc]; rfl
  | cons x l =>
    rw [ho] at e1 ee
    simp only [List.length_cons] at e1 ee ⊢
    have v1 : vd (h :: r) h.at'.toNat = some x := by
      rw [vd, if_pos (by omega), Nat.sub_self, ho]; rfl
    have hd : st a c (h :: r) (h.at'.toNat + 1) l.length = l.map (fun x => (c, x)) := st_dels a c (h :: r) l _ (fun i hi => by
      obtain ⟨w1, -⟩ := v_lo r (en h) (h.at'.toNat + 1 + i) hr (by omega)
      refine ⟨by rw [vi, if_neg (by omega)]; exact w1, ?_⟩
      rw [vd, if_pos (by omega), ho, show h.at'.toNat + 1 + i - h.at'.toNat = i + 1 by omega, List.getElem?_cons_succ, List.getElem?_eq_getElem hi])
    rw [show l.length + 1 + (m + 1) = (l.length + (m + 1)) + 1 by omega, st, v0, v1, st_add, hd, show h.at'.toNat + 1 + l.length = (en h).toNat by omega, st_same a c (h :: r) r (m + 1) (en h).toNat (fun i hi hj => far i (by omega) (by omega))]
    unfold bl
    rw [List.append_assoc]; rfl
/-- the steps at the places are those of the patch, and keeps behind them -/
theorem st_sq (a c : Nat) (K : List H) : ∀ (prev : Int) (k n : Nat), Gp prev K → 0 ≤ prev + 1 → (k : Int) ≤ prev + 1 → lastE prev K < (k + n : Nat) → ∃ e, st a c K k n = sq a c k K ++ ks e := by
  induction K with
  | nil => intro prev k n _ _ _ _; exact ⟨n, by rw [st_keeps a c [] n k (fun i _ _ => ⟨rfl, rfl⟩)]; rfl⟩
  | cons h r ih =>
    intro prev k n hch hp hk hn
    have hch' := hch
    obtain ⟨g1, hr⟩ := hch
    have g2 : 0 ≤ h.at' := by omega
    have e1 : (en h : Int) = h.at' + h.old.length := rfl
    have hl : en h ≤ lastE prev (h :: r) := by
      have : ∀ (r : List H) (p : Int), Gp p r → p ≤ lastE p r := by
        intro r
        induction r with
        | nil => intro p _; exact Int.le_refl _
        | cons x r ih2 =>
          intro p hx
          have a1 := ih2 (en x) hx.2
          have a2 := hx.1
          have a3 : (en x : Int) = x.at' + x.old.length := rfl
          show p ≤ lastE (en x) r
          omega
      exact this r (en h) hr
    obtain ⟨m, hm⟩ : ∃ m, n = (h.at'.toNat - k) + (h.old.length + (m + 1)) := ⟨n - (h.at'.toNat - k) - h.old.length - 1, by omega⟩
    subst hm
    obtain ⟨e, he⟩ := ih (en h) (en h).toNat (m + 1) hr (by omega) (by omega) (by
      have : lastE prev (h :: r) = lastE (en h) r := rfl
      omega)
    refine ⟨e, ?_⟩
    rw [st_add, st_keeps a c (h :: r) _ k (fun i hi hj => by
      obtain ⟨w1, w2⟩ := v_lo r (en h) i hr (by omega)
      unfold vi vd
      rw [if_neg (by omega), if_neg (by omega)]
      exact ⟨w1, w2⟩), show k + (h.at'.toNat - k) = h.at'.toNat by omega, st_hunk a c h r prev hch' hp m, he, sq, List.append_assoc, List.append_assoc, List.append_assoc]
theorem sq_sp (hs : List H) : ∀ k, sq 2 1 k hs = sp true k hs := by
  induction hs with
  | nil => intro k; rfl
  | cons h r ih => intro k; rw [sq, sp, ih]; unfold hkS; rw [if_pos rfl, List.append_assoc]; rfl
theorem sq_iv (hs : List H) : ∀ (k j : Nat) (g prev : Int), Ch prev hs → (j : Int) = k + g → (k : Int) ≤ prev + 1 → sq 1 2 j (iv g hs) = sp false k hs := by
  induction hs with
  | nil => intro k j g prev _ _ _; rfl
  | cons h r ih =>
    intro k j g prev hch hj hk
    obtain ⟨hok, hr⟩ := hch
    have g1 := hok.gap; have g2 := hok.lo
    have e1 : (en h : Int) = h.at' + h.old.length := rfl
    have e2 : en (⟨h.at' + g, h.new, h.old⟩ : H) = h.at' + g + h.new.length := rfl
    rw [iv, sq, sp, ih (en h).toNat (en (⟨h.at' + g, h.new, h.old⟩ : H)).toNat _ (en h) hr (by omega) (by omega)]
    dsimp only
    rw [show (h.at' + g).toNat - j = h.at'.toNat - k by omega]
    unfold hkS
    rw [if_neg (by simp), List.append_assoc]; rfl
/-! composition, place by place -/
theorem comp_dels (d : List ByteArray) (p q : List (Nat × ByteArray)) : comp (ds d ++ p) q = ds d ++ comp p q := by
  induction d with
  | nil => rfl
  | cons x d ih =>
    cases q with
    | nil => rw [comp_nil', comp_nil']
    | cons y q =>
      have e : ds (x :: d) ++ p = (1, x) :: (ds d ++ p) := rfl
      rw [e, comp_cons, if_pos rfl, ih]; rfl
theorem comp_inss (x : Nat × ByteArray) (hx : x.1 ≠ 1) (p : List (Nat × ByteArray)) (i : List ByteArray) (q : List (Nat × ByteArray)) : comp (x :: p) (is i ++ q) = is i ++ comp (x :: p) q := by
  induction i with
  | nil => rfl
  | cons y i ih =>
    have e : is (y :: i) ++ q = (2, y) :: (is i ++ q) := rfl
    rw [e, comp_cons, if_neg hx, if_pos rfl, ih]; rfl
/-- the steps of one place: what is deleted and inserted ahead of its line, the line if it is made, the line if it is removed -/
def pl (d i : List ByteArray) (m r : Option ByteArray) : List (Nat × ByteArray) :=
  ds d ++ (is i ++ (match m, r with | none, none => [(0, ByteArray.empty)] | some x, none => [(2, x)] | none, some y => [(1, y)] | some _, some _ => []))
def pls (K q : List H) : Nat → Nat → List (Nat × ByteArray)
  | _, 0 => []
  | k, n + 1 => pl (vi K k) (vi q k) (vd K k) (vd q k) ++ pls K q (k + 1) n
theorem comp_st (K q : List H) (n : Nat) : ∀ k, comp (st 1 2 K k n) (st 2 1 q k n) = pls K q k n := by
  induction n with
  | zero => intro k; exact comp_nil _
  | succ n ih =>
    intro k
    rw [st, st, pls, ← ih (k + 1)]
    generalize st 1 2 K (k + 1) n = A
    generalize st 2 1 q (k + 1) n = B
    unfold bl pl
    rw [List.append_assoc, List.append_assoc]
    show comp (ds (vi K k) ++ _) (is (vi q k) ++ _) = _
    rw [comp_dels, List.append_assoc, List.append_assoc]
    congr 1
    cases vd K k <;> cases vd q k <;> rw [List.singleton_append, List.singleton_append, comp_inss _ (by simp)] <;> congr 1 <;> rw [comp_cons]
    · rw [if_neg (by simp), if_neg (by simp), if_pos rfl]; rfl
    · rw [if_neg (by simp), if_neg (by simp), if_pos rfl]; rfl
    · rw [if_neg (by simp), if_neg (by simp), if_neg (by simp), if_pos rfl]; rfl
    · rw [if_neg (by simp), if_neg (by simp), if_neg (by simp), if_neg (by simp)]; rfl
/-! keeps behind the steps change nothing -/
theorem pof_keeps (s : List (Nat × ByteArray)) (n : Nat) : Dif.pof (s ++ ks n) = Dif.pof s := by
  unfold Dif.pof
  rw [List.foldl_append]
  generalize s.foldl Dif.pst ⟨[], 0, false⟩ = z
  obtain ⟨a, b, o⟩ := z
  rw [pst_keeps]
def Ke (s : List (Nat × ByteArray)) : Prop := ∀ x ∈ s, x.1 = 0 → x = (0, ByteArray.empty)
theorem ks_add (a b : Nat) : ks (a + b) = ks a ++ ks b := List.replicate_append_replicate.symm
theorem ks_succ (n : Nat) : ks (n + 1) = (0, ByteArray.empty) :: ks n := rfl
theorem comp_keeps_l (q : List (Nat × ByteArray)) : ∀ n, ∃ e, comp (ks n) q = q ++ ks e := by
  induction q with
  | nil => intro n; exact ⟨n, by rw [comp_nil']; rfl⟩
  | cons y q ih =>
    intro n
    cases n with
    | zero => exact ⟨0, by rw [show ks 0 = [] from rfl, comp_nil, List.append_nil]⟩
    | succ n =>
      rw [ks_succ, comp_cons, if_neg (by simp)]
      by_cases h : y.1 = 2
      · obtain ⟨e, he⟩ := ih (n + 1)
        rw [if_pos h, ← ks_succ, he]; exact ⟨e, rfl⟩
      · obtain ⟨e, he⟩ := ih n
        rw [if_neg h, if_pos rfl, he]; exact ⟨e, rfl⟩
theorem comp_keeps_r (p : List (Nat × ByteArray)) : Ke p → ∀ n, ∃ e, comp p (ks n) = p ++ ks e := by
  induction p with
  | nil => intro _ n; exact ⟨n, by rw [comp_nil]; rfl⟩
  | cons x p ih =>
    intro hk n
    have hk' : Ke p := fun y hy => hk y (List.mem_cons_of_mem _ hy)
    cases n with
    | zero => exact ⟨0, by rw [show ks 0 = [] from rfl, comp_nil', List.append_nil]⟩
    | succ n =>
      rw [ks_succ, comp_cons]
      by_cases h1 : x.1 = 1
      · obtain ⟨e, he⟩ := ih hk' (n + 1)
        rw [if_pos h1, ← ks_succ, he]; exact ⟨e, rfl⟩
      · obtain ⟨e, he⟩ := ih hk' n
        rw [if_neg h1, if_neg (by simp)]
        by_cases h0 : x.1 = 0
        · rw [if_pos h0, he, hk x (List.mem_cons_self ..) h0]; exact ⟨e, rfl⟩
        · rw [if_neg h0, if_pos rfl, he]; exact ⟨e, rfl⟩
theorem comp_keeps_le (a b : Nat) (n : Nat) : ∀ (p q : List (Nat × ByteArray)), p.length + q.length ≤ n → Ke p → ∃ e, comp (p ++ ks a) (q ++ ks b) = comp p q ++ ks e := by
  induction n with
  | zero =>
    intro p q hn hk
    have h1 : p = [] := List.length_eq_zero_iff.1 (by omega)
    have h2 : q = [] := List.length_eq_zero_iff.1 (by omega)
    subst h1 h2
    obtain ⟨e, he⟩ := comp_keeps_l ([] ++ ks b) a
    refine ⟨b + e, ?_⟩
    rw [List.nil_append, he, comp_nil, List.nil_append, List.nil_append, ks_add]
  | succ n ih =>
    intro p q hn hk
    cases p with
    | nil =>
      obtain ⟨e, he⟩ := comp_keeps_l (q ++ ks b) a
      refine ⟨b + e, ?_⟩
      rw [List.nil_append, he, comp_nil, List.append_assoc, ks_add]
    | cons x p =>
      have hk' : Ke p := fun y hy => hk y (List.mem_cons_of_mem _ hy)
      cases q with
      | nil =>
        have hk2 : Ke (x :: p ++ ks a) := by
          intro y hy h0
          rcases List.mem_append.1 hy with hy | hy
          · exact hk y hy h0
          · exact List.eq_of_mem_replicate hy
        obtain ⟨e, he⟩ := comp_keeps_r _ hk2 b
        refine ⟨a + e, ?_⟩
        rw [List.nil_append, he, comp_nil', List.append_assoc, ks_add]
      | cons y q =>
        simp only [List.length_cons] at hn
        obtain ⟨e1, h1⟩ := ih p (y :: q) (by simp only [List.length_cons]; omega) hk'
        obtain ⟨e2, h2⟩ := ih (x :: p) q (by simp only [List.length_cons]; omega) hk
        obtain ⟨e3, h3⟩ := ih p q (by omega) hk'
        rw [List.cons_append, List.cons_append] at *
        rw [comp_cons, comp_cons]
        split
        · exact ⟨e1, by rw [h1]; rfl⟩
        · split
          · exact ⟨e2, by rw [h2]; rfl⟩
          · split
            · exact ⟨e3, by rw [h3]; rfl⟩
            · split
              · exact ⟨e3, by rw [h3]; rfl⟩
              · exact ⟨e3, h3⟩
theorem comp_keeps {p q : List (Nat × ByteArray)} (h : Ke p) (a b : Nat) : ∃ e, comp (p ++ ks a) (q ++ ks b) = comp p q ++ ks e := comp_keeps_le a b _ p q (Nat.le_refl _) h
theorem Ke.app {s s' : List (Nat × ByteArray)} (h : Ke s) (h' : Ke s') : Ke (s ++ s') := by
  intro x hx
  rcases List.mem_append.1 hx with hx | hx
  · exact h x hx
  · exact h' x hx
theorem ke_keeps (n : Nat) : Ke (ks n) := fun _ hx _ => List.eq_of_mem_replicate hx
theorem ke_hk (b : Bool) (h : H) : Ke (hkS b h) := by
  intro x hx h0
  exfalso
  unfold hkS ds is at hx
  split at hx <;> rcases List.mem_append.1 hx with hx | hx <;> obtain ⟨y, -, rfl⟩ := List.mem_map.1 hx <;> simp at h0
theorem ke_sp (b : Bool) (hs : List H) : ∀ k, Ke (sp b k hs) := by
  induction hs with
  | nil => intro k x hx; cases hx
  | cons h r ih => intro k; rw [sp]; exact (ke_keeps _).app ((ke_hk b h).app (ih _))
/-- the patch of the places is the composition, whatever number of places is looked at behind the last change -/
theorem pls_cm {p q : List H} (hp : Ch (-1) p) (hq : Ch (-1) q) (N : Nat) (h1 : lastE (-1) (iv 0 p) < N) (h2 : lastE (-1) q < N) : Dif.pof (pls (iv 0 p) q 0 N) = cm p q := by
  obtain ⟨a, ha⟩ := st_sq 1 2 (iv 0 p) (-1) 0 N (show Gp (-1) (iv 0 p) from (ch_gp hp).iv 0) (by omega) (by omega) (by rw [Nat.zero_add]; exact h1)
  obtain ⟨b, hb⟩ := st_sq 2 1 q (-1) 0 N (ch_gp hq) (by omega) (by omega) (by rw [Nat.zero_add]; exact h2)
  rw [sq_iv p 0 0 0 (-1) hp (by omega) (by omega)] at ha
  rw [sq_sp] at hb
  rw [← comp_st, ha, hb]
  obtain ⟨e, he⟩ := comp_keeps (p := sp false 0 p) (q := sp true 0 q) (ke_sp false p 0) a b
  rw [he, pof_keeps]; rfl
/-- fewer places serve, where nothing is done behind them -/
theorem pls_add (K q : List H) (m : Nat) : ∀ (k n : Nat), pls K q k (m + n) = pls K q k m ++ pls K q (k + m) n := by
  induction m with
  | zero => intro k n; rw [Nat.zero_add]; rfl
  | succ m ih => intro k n; rw [show m + 1 + n = (m + n) + 1 by omega, pls, pls, ih, List.append_assoc, show k + 1 + m = k + (m + 1) by omega]
theorem pls_keeps (K q : List H) (m : Nat) : ∀ (k : Nat), (∀ i, k ≤ i → vi K i = [] ∧ vd K i = none ∧ vi q i = [] ∧ vd q i = none) → pls K q k m = ks m := by
  induction m with
  | zero => intro k _; rfl
  | succ m ih =>
    intro k h
    obtain ⟨h1, h2, h3, h4⟩ := h k (Nat.le_refl _)
    rw [pls, h1, h2, h3, h4, ih (k + 1) (fun i hi => h i (by omega))]
    rfl
theorem pls_short (K q : List H) (n N : Nat) (hn : n ≤ N) (h : ∀ i, n ≤ i → vi K i = [] ∧ vd K i = none ∧ vi q i = [] ∧ vd q i = none) : Dif.pof (pls K q 0 n) = Dif.pof (pls K q 0 N) := by
  obtain ⟨m, rfl⟩ : ∃ m, N = n + m := ⟨N - n, by omega⟩
  rw [pls_add, pls_keeps K q m (0 + n) (fun i hi => h i (by omega)), pof_keeps]
end Go.Proofs.Ytbgnckbgpiajjaa.Tp
namespace Go.Proofs.Ytbgnckbgpiajjaa.Tp
open Go.RowKit

/-- what steps leave of numbered lines: an old line's number, or -1 and an inserted line -/
def it : Nat → List (Nat × ByteArray) → List (Int × ByteArray)
  | _, [] => []
  | o, x :: s => if x.1 = 0 then ((o : Int), ByteArray.empty) :: it (o + 1) s else if x.1 = 1 then it (o + 1) s else (-1, x.2) :: it o s
/-- steps on numbered lines -/
def rn : List (Nat × ByteArray) → List (Int × ByteArray) → List (Int × ByteArray)
  | [], l => l
  | y :: q, l => if y.1 = 2 then (-1, y.2) :: rn q l else match l with
    | [] => []
    | m :: l => if y.1 = 0 then m :: rn q l else rn q l
theorem it_cons (o : Nat) (x : Nat × ByteArray) (s : List (Nat × ByteArray)) : it o (x :: s) = if x.1 = 0 then ((o : Int), ByteArray.empty) :: it (o + 1) s else if x.1 = 1 then it (o + 1) s else (-1, x.2) :: it o s := rfl
theorem rn_ins {y : Nat × ByteArray} (q : List (Nat × ByteArray)) (l : List (Int × ByteArray)) (h : y.1 = 2) : rn (y :: q) l = (-1, y.2) :: rn q l := by cases l <;> simp [rn, h]
theorem rn_keep {y : Nat × ByteArray} (q : List (Nat × ByteArray)) (m : Int × ByteArray) (l : List (Int × ByteArray)) (h : y.1 = 0) : rn (y :: q) (m :: l) = m :: rn q l := by simp [rn, h]
theorem rn_del {y : Nat × ByteArray} (q : List (Nat × ByteArray)) (m : Int × ByteArray) (l : List (Int × ByteArray)) (h : y.1 = 1) : rn (y :: q) (m :: l) = rn q l := by simp [rn, h]
/-- how many lines steps read -/
def rd (s : List (Nat × ByteArray)) : Nat := (s.filter (fun x => x.1 != 2)).length
theorem rd_cons (x : Nat × ByteArray) (s : List (Nat × ByteArray)) : rd (x :: s) = (if x.1 = 2 then 0 else 1) + rd s := by
  unfold rd
  by_cases h : x.1 = 2
  · rw [List.filter_cons_of_neg (by simp [h]), if_pos h, Nat.zero_add]
  · rw [List.filter_cons_of_pos (by simp [h]), if_neg h, List.length_cons, Nat.add_comm]
def Cd (s : List (Nat × ByteArray)) : Prop := ∀ x ∈ s, x.1 = 0 ∨ x.1 = 1 ∨ x.1 = 2
theorem it_comp_le (n : Nat) : ∀ (p q : List (Nat × ByteArray)) (o : Nat), p.length + q.length ≤ n → Cd p → Cd q → rd q ≤ (it o p).length → it o (comp p q) = rn q (it o p) := by
  induction n with
  | zero =>
    intro p q o hn _ _ _
    have h1 : p = [] := List.length_eq_zero_iff.1 (by omega)
    have h2 : q = [] := List.length_eq_zero_iff.1 (by omega)
    subst h1 h2
    rw [comp_nil]; rfl
  | succ n ih =>
    intro p q o hn hp hq hr
    cases q with
    | nil => rw [comp_nil']; rfl
    | cons y q =>
      have hq' : Cd q := fun z hz => hq z (List.mem_cons_of_mem _ hz)
      rw [rd_cons] at hr
      cases p with
      | nil =>
        have hy : y.1 = 2 := by
          rcases Nat.decEq y.1 2 with h | h
          · rw [if_neg h] at hr; simp [it] at hr
          · exact h
        rw [if_pos hy] at hr
        have := ih [] q o (by simp only [List.length_cons] at hn ⊢; omega) hp hq' (by omega)
        rw [comp_nil] at this ⊢
        rw [it_cons, if_neg (by omega), if_neg (by omega), this, show it o [] = [] from rfl, rn_ins _ _ hy]
      | cons x p =>
        have hp' : Cd p := fun z hz => hp z (List.mem_cons_of_mem _ hz)
        simp only [List.length_cons] at hn
        rw [comp_cons]
        by_cases x1 : x.1 = 1
        · have e : it o (x :: p) = it (o + 1) p := by rw [it_cons, if_neg (by omega), if_pos x1]
          rw [if_pos x1, it_cons, if_neg (by omega), if_pos x1, e]
          rw [e] at hr
          exact ih p (y :: q) (o + 1) (by simp only [List.length_cons]; omega) hp' hq (by rw [rd_cons]; exact hr)
        · rw [if_neg x1]
          by_cases y2 : y.1 = 2
          · rw [if_pos y2] at hr ⊢
            rw [it_cons o y, if_neg (by omega), if_neg (by omega), ih (x :: p) q o (by simp only [List.length_cons]; omega) hp hq' (by omega), rn_ins _ _ y2]
          · rw [if_neg y2] at hr ⊢
            by_cases x0 : x.1 = 0
            · have e : it o (x :: p) = ((o : Int), ByteArray.empty) :: it (o + 1) p := by rw [it_cons, if_pos x0]
              rw [e, List.length_cons] at hr
              rw [e, if_pos x0]
              have hI := ih p q (o + 1) (by omega) hp' hq' (by omega)
              by_cases y0 : y.1 = 0
              · rw [it_cons, if_pos y0, hI, rn_keep _ _ _ y0]
              · have y1 : y.1 = 1 := by have := hq y (List.mem_cons_self ..); omega
                rw [it_cons, if_neg y0, if_pos y1, hI, rn_del _ _ _ y1]
            · have x2 : x.1 = 2 := by have := hp x (List.mem_cons_self ..); omega
              have e : it o (x :: p) = (-1, x.2) :: it o p := by rw [it_cons, if_neg x0, if_neg x1]
              rw [e, List.length_cons] at hr
              rw [e, if_neg x0]
              have hI := ih p q o (by omega) hp' hq' (by omega)
              by_cases y0 : y.1 = 0
              · rw [if_pos y0, it_cons, if_neg x0, if_neg x1, hI, rn_keep _ _ _ y0]
              · have y1 : y.1 = 1 := by have := hq y (List.mem_cons_self ..); omega
                rw [if_neg y0, hI, rn_del _ _ _ y1]
theorem it_comp {p q : List (Nat × ByteArray)} {o : Nat} (hp : Cd p) (hq : Cd q) (h : rd q ≤ (it o p).length) : it o (comp p q) = rn q (it o p) := it_comp_le _ p q o (Nat.le_refl _) hp hq h

/-- the patch that is read off numbered lines: g holds what was deleted, by its number -/
def ro (g : List ByteArray) : Nat → List ByteArray → List (Int × ByteArray) → List H
  | _, _, [] => []
  | fr, fresh, k :: r =>
    if k.1 < 0 then ro g fr (fresh ++ [k.2]) r
    else (if fr < k.1.toNat ∨ 0 < fresh.length then [⟨(fr : Int), mid g fr k.1.toNat, fresh⟩] else []) ++ ro g (k.1.toNat + 1) [] r
/-- g holds what the steps delete -/
def Gn (g : List ByteArray) : Nat → List (Nat × ByteArray) → Prop
  | _, [] => True
  | o, x :: s => if x.1 = 2 then Gn g o s else (x.1 = 1 → g[o]? = some x.2) ∧ Gn g (o + 1) s
def pn (g : List ByteArray) (fr o : Nat) (fresh : List ByteArray) : List H := if fr < o ∨ 0 < fresh.length then [⟨(fr : Int), mid g fr o, fresh⟩] else []
theorem pn_base (g : List ByteArray) (fr o : Nat) (fresh : List ByteArray) (Hs : List H) (h : fr ≤ o) :
    (if decide (fr < o ∨ 0 < fresh.length) = true then Hs ++ pn g fr o fresh else Hs ++ pn g fr o fresh ++ [⟨(o : Int), [], []⟩]) = Hs ++ [⟨(fr : Int), mid g fr o, fresh⟩] := by
  unfold pn
  by_cases e : fr < o ∨ 0 < fresh.length
  · rw [if_pos (by simpa using e), if_pos e]
  · rw [if_neg (by simpa using e), if_neg e]
    obtain rfl : fr = o := by omega
    have : fresh = [] := List.length_eq_zero_iff.1 (by omega)
    rw [this, mid_nil, List.append_nil]
theorem ro_fold (g : List ByteArray) (s : List (Nat × ByteArray)) : ∀ (fr o : Nat) (fresh : List ByteArray) (Hs : List H), fr ≤ o → Cd s → Gn g o (s ++ [(0, ByteArray.empty)]) →
    ((s ++ [(0, ByteArray.empty)]).foldl Dif.pst ⟨Hs ++ pn g fr o fresh, o, decide (fr < o ∨ 0 < fresh.length)⟩).hs = Hs ++ ro g fr fresh (it o (s ++ [(0, ByteArray.empty)])) := by
  induction s with
  | nil =>
    intro fr o fresh Hs hf _ _
    show Hs ++ pn g fr o fresh = _
    rw [List.nil_append, it, if_pos rfl, it, ro]
    dsimp only
    rw [if_neg (by omega), ro, List.append_nil]
    simp only [Int.toNat_natCast]; rfl
  | cons x s ih =>
    intro fr o fresh Hs hf hc hg
    have hc' : Cd s := fun z hz => hc z (List.mem_cons_of_mem _ hz)
    rw [List.cons_append] at hg ⊢
    rw [List.foldl_cons]
    by_cases x0 : x.1 = 0
    · have e : Dif.pst ⟨Hs ++ pn g fr o fresh, o, decide (fr < o ∨ 0 < fresh.length)⟩ x = ⟨(Hs ++ pn g fr o fresh) ++ pn g (o + 1) (o + 1) [], o + 1, decide (o + 1 < o + 1 ∨ 0 < ([] : List ByteArray).length)⟩ := by
        unfold Dif.pst
        rw [if_pos x0]
        have : pn g (o + 1) (o + 1) [] = [] := by unfold pn; rw [if_neg (by simp)]
        rw [this, List.append_nil]; simp
      rw [Gn, if_neg (by omega)] at hg
      rw [e, ih (o + 1) (o + 1) [] _ (Nat.le_refl _) hc' hg.2, it, if_pos x0, ro]
      dsimp only
      rw [if_neg (by omega), List.append_assoc]
      simp only [Int.toNat_natCast]; rfl
    · by_cases x1 : x.1 = 1
      · rw [Gn, if_neg (by omega)] at hg
        have hx := hg.1 x1
        have e : Dif.pst ⟨Hs ++ pn g fr o fresh, o, decide (fr < o ∨ 0 < fresh.length)⟩ x = ⟨Hs ++ pn g fr (o + 1) fresh, o + 1, decide (fr < o + 1 ∨ 0 < fresh.length)⟩ := by
          have e1 : Dif.pst ⟨Hs ++ pn g fr o fresh, o, decide (fr < o ∨ 0 < fresh.length)⟩ x = ⟨Dif.onLast (fun h => { h with old := h.old ++ [x.2] }) (if decide (fr < o ∨ 0 < fresh.length) = true then Hs ++ pn g fr o fresh else Hs ++ pn g fr o fresh ++ [⟨(o : Int), [], []⟩]), o + 1, true⟩ := by
            unfold Dif.pst; rw [if_neg x0, if_pos x1]
          have ho : o < g.length := by
            rcases Nat.lt_or_ge o g.length with h | h
            · exact h
            · rw [List.getElem?_eq_none h] at hx; cases hx
          have hgx : g[o] = x.2 := by rw [List.getElem?_eq_getElem ho] at hx; injection hx
          rw [e1, pn_base g fr o fresh Hs hf, onLast_snoc]
          dsimp only
          have hd : decide (fr < o + 1 ∨ 0 < fresh.length) = true := by simp; omega
          rw [hd, ← hgx, ← mid_next g fr o hf ho]
          unfold pn
          rw [if_pos (by omega)]
        rw [e, ih fr (o + 1) fresh Hs (by omega) hc' hg.2, it, if_neg x0, if_pos x1]
      · have x2 : x.1 = 2 := by have := hc x (List.mem_cons_self ..); omega
        rw [Gn, if_pos x2] at hg
        have e : Dif.pst ⟨Hs ++ pn g fr o fresh, o, decide (fr < o ∨ 0 < fresh.length)⟩ x = ⟨Hs ++ pn g fr o (fresh ++ [x.2]), o, decide (fr < o ∨ 0 < (fresh ++ [x.2]).length)⟩ := by
          have e1 : Dif.pst ⟨Hs ++ pn g fr o fresh, o, decide (fr < o ∨ 0 < fresh.length)⟩ x = ⟨Dif.onLast (fun h => { h with new := h.new ++ [x.2] }) (if decide (fr < o ∨ 0 < fresh.length) = true then Hs ++ pn g fr o fresh else Hs ++ pn g fr o fresh ++ [⟨(o : Int), [], []⟩]), o, true⟩ := by
            unfold Dif.pst; rw [if_neg x0, if_neg x1]
          rw [e1, pn_base g fr o fresh Hs hf, onLast_snoc]
          dsimp only
          have hd : decide (fr < o ∨ 0 < (fresh ++ [x.2]).length) = true := by simp
          rw [hd]
          unfold pn
          rw [if_pos (by simp)]
        rw [e, ih fr o (fresh ++ [x.2]) Hs hf hc' hg, it, if_neg x0, if_neg x1, ro, if_pos (by simp)]
/-- the patch read off the numbered lines that steps leave is the patch of the steps -/
theorem ro_pof (g : List ByteArray) (s : List (Nat × ByteArray)) (hc : Cd s) (hg : Gn g 0 (s ++ [(0, ByteArray.empty)])) : ro g 0 [] (it 0 (s ++ [(0, ByteArray.empty)])) = Dif.pof s := by
  have := ro_fold g s 0 0 [] [] (Nat.le_refl _) hc hg
  have e : pn g 0 0 [] = [] := by unfold pn; rw [if_neg (by simp)]
  rw [e, List.append_nil, List.nil_append] at this
  rw [← this]
  exact pof_keeps s 1

/-! conflicts: K is the first patch, seen from its new text -/
/-- a hunk deletes a line that differs from the one that was inserted there -/
def cfh (K : List H) (h : H) : Bool := (List.range h.old.length).any fun j => match vd K (h.at'.toNat + j) with | some x => decide (x ≠ h.old.getD j ByteArray.empty) | none => false
/-- the first hunk that does -/
def cfi (K : List H) : List H → Nat → Option Nat
  | [], _ => none
  | h :: r, i => if cfh K h then some i else cfi K r (i + 1)
theorem vd_has (u : List ByteArray) (K : List H) : (∀ h ∈ K, Has u h) → ∀ (i : Nat) (x : ByteArray), vd K i = some x → u[i]? = some x := by
  induction K with
  | nil => intro _ i x h; cases h
  | cons h r ih =>
    intro hf i x hx
    rw [vd] at hx
    by_cases e : h.at' ≤ i ∧ (i : Int) < en h
    · rw [if_pos e] at hx
      have hh := hf h (List.mem_cons_self ..)
      have g2 := hh.lo
      rw [← hh.eq] at hx
      unfold mid at hx
      rw [List.getElem?_take_of_lt (by omega), List.getElem?_drop, show h.at'.toNat + (i - h.at'.toNat) = i by omega] at hx
      exact hx
    · rw [if_neg e] at hx
      exact ih (fun z hz => hf z (List.mem_cons_of_mem _ hz)) i x hx
/-- patches that apply one after the other do not conflict -/
theorem cfi_none (u : List ByteArray) (K : List H) (hf : ∀ h ∈ K, Has u h) (q : List H) : (∀ h ∈ q, Has u h) → ∀ i, cfi K q i = none := by
  induction q with
  | nil => intro _ i; rfl
  | cons h r ih =>
    intro hq i
    have hh := hq h (List.mem_cons_self ..)
    have : cfh K h = false := by
      unfold cfh
      rw [List.any_eq_false]
      intro j hj
      have hj' := List.mem_range.1 hj
      cases hv : vd K (h.at'.toNat + j) with
      | none => simp
      | some x =>
        have h1 := vd_has u K hf _ x hv
        have h2 : h.old[j]? = some x := by
          rw [← hh.eq]
          unfold mid
          have e1 : (en h : Int) = h.at' + h.old.length := rfl
          have e2 := hh.lo
          rw [List.getElem?_take_of_lt (by omega), List.getElem?_drop]
          exact h1
        simp [List.getD, h2]
    rw [cfi, this, if_neg (by simp)]
    exact ih (fun z hz => hq z (List.mem_cons_of_mem _ hz)) (i + 1)
end Go.Proofs.Ytbgnckbgpiajjaa.Tp
namespace Go.Proofs.Ytbgnckbgpiajjaa.Tp
open Go.RowKit

/-- the deleted lines with their numbers -/
def gd : Nat → List (Nat × ByteArray) → List (Nat × ByteArray)
  | _, [] => []
  | o, x :: s => if x.1 = 0 then gd (o + 1) s else if x.1 = 1 then (o, x.2) :: gd (o + 1) s else gd o s
theorem gd_cons (o : Nat) (x : Nat × ByteArray) (s : List (Nat × ByteArray)) : gd o (x :: s) = if x.1 = 0 then gd (o + 1) s else if x.1 = 1 then (o, x.2) :: gd (o + 1) s else gd o s := rfl
theorem gn_gd (g : List ByteArray) (s : List (Nat × ByteArray)) : ∀ o, Cd s → (∀ z ∈ gd o s, g[z.1]? = some z.2) → Gn g o s := by
  induction s with
  | nil => intro o _ _; trivial
  | cons x s ih =>
    intro o hc h
    have hc' : Cd s := fun z hz => hc z (List.mem_cons_of_mem _ hz)
    rw [gd_cons] at h
    rw [Gn]
    by_cases x2 : x.1 = 2
    · rw [if_pos x2]
      rw [if_neg (by omega), if_neg (by omega)] at h
      exact ih o hc' h
    · rw [if_neg x2]
      by_cases x0 : x.1 = 0
      · rw [if_pos x0] at h
        exact ⟨fun e => by omega, ih _ hc' h⟩
      · have x1 : x.1 = 1 := by have := hc x (List.mem_cons_self ..); omega
        rw [if_neg x0, if_pos x1] at h
        exact ⟨fun _ => h (o, x.2) (List.mem_cons_self ..), ih _ hc' (fun z hz => h z (List.mem_cons_of_mem _ hz))⟩
/-- the numbered lines that steps delete -/
def qd : List (Nat × ByteArray) → List (Int × ByteArray) → List (Nat × ByteArray)
  | [], _ => []
  | y :: q, l => if y.1 = 2 then qd q l else match l with
    | [] => []
    | m :: l => (if y.1 = 1 ∧ 0 ≤ m.1 then [(m.1.toNat, y.2)] else []) ++ qd q l
theorem qd_ins {y : Nat × ByteArray} (q : List (Nat × ByteArray)) (l : List (Int × ByteArray)) (h : y.1 = 2) : qd (y :: q) l = qd q l := by cases l <;> simp [qd, h]
theorem qd_cons {y : Nat × ByteArray} (q : List (Nat × ByteArray)) (m : Int × ByteArray) (l : List (Int × ByteArray)) (h : y.1 ≠ 2) : qd (y :: q) (m :: l) = (if y.1 = 1 ∧ 0 ≤ m.1 then [(m.1.toNat, y.2)] else []) ++ qd q l := by simp only [qd, if_neg h]
theorem gd_comp_le (n : Nat) : ∀ (p q : List (Nat × ByteArray)) (o : Nat), p.length + q.length ≤ n → Cd p → Cd q → rd q ≤ (it o p).length → ∀ z ∈ gd o (comp p q), z ∈ gd o p ∨ z ∈ qd q (it o p) := by
  induction n with
  | zero =>
    intro p q o hn _ _ _ z hz
    have h1 : p = [] := List.length_eq_zero_iff.1 (by omega)
    have h2 : q = [] := List.length_eq_zero_iff.1 (by omega)
    subst h1 h2
    rw [comp_nil] at hz
    exact Or.inl hz
  | succ n ih =>
    intro p q o hn hp hq hr z hz
    cases q with
    | nil => rw [comp_nil'] at hz; exact Or.inl hz
    | cons y q =>
      have hq' : Cd q := fun z hz => hq z (List.mem_cons_of_mem _ hz)
      rw [rd_cons] at hr
      cases p with
      | nil =>
        have hy : y.1 = 2 := by
          rcases Nat.decEq y.1 2 with h | h
          · rw [if_neg h] at hr; simp [it] at hr
          · exact h
        rw [if_pos hy] at hr
        have hI := ih [] q o (by simp only [List.length_cons] at hn ⊢; omega) hp hq' (by omega) z
        rw [comp_nil] at hI hz
        rw [gd_cons, if_neg (by omega), if_neg (by omega)] at hz
        rw [qd_ins _ _ hy]
        exact hI hz
      | cons x p =>
        have hp' : Cd p := fun z hz => hp z (List.mem_cons_of_mem _ hz)
        simp only [List.length_cons] at hn
        rw [comp_cons] at hz
        by_cases x1 : x.1 = 1
        · have e : it o (x :: p) = it (o + 1) p := by rw [it_cons, if_neg (by omega), if_pos x1]
          rw [if_pos x1, gd_cons, if_neg (by omega), if_pos x1] at hz
          rw [e, gd_cons, if_neg (by omega), if_pos x1]
          rw [e] at hr
          rcases List.mem_cons.1 hz with rfl | hz
          · exact Or.inl (List.mem_cons_self ..)
          · rcases ih p (y :: q) (o + 1) (by simp only [List.length_cons]; omega) hp' hq (by rw [rd_cons]; exact hr) z hz with h | h
            · exact Or.inl (List.mem_cons_of_mem _ h)
            · exact Or.inr h
        · rw [if_neg x1] at hz
          by_cases y2 : y.1 = 2
          · rw [if_pos y2] at hr hz
            rw [gd_cons o y, if_neg (by omega), if_neg (by omega)] at hz
            rw [qd_ins _ _ y2]
            exact ih (x :: p) q o (by simp only [List.length_cons]; omega) hp hq' (by omega) z hz
          · rw [if_neg y2] at hr hz
            by_cases x0 : x.1 = 0
            · have e : it o (x :: p) = ((o : Int), ByteArray.empty) :: it (o + 1) p := by rw [it_cons, if_pos x0]
              rw [e, List.length_cons] at hr
              rw [if_pos x0] at hz
              rw [e, gd_cons, if_pos x0, qd_cons _ _ _ y2]
              have hI := ih p q (o + 1) (by omega) hp' hq' (by omega) z
              by_cases y0 : y.1 = 0
              · rw [gd_cons, if_pos y0] at hz
                rcases hI hz with h | h
                · exact Or.inl h
                · exact Or.inr (List.mem_append.2 (Or.inr h))
              · have y1 : y.1 = 1 := by have := hq y (List.mem_cons_self ..); omega
                rw [gd_cons, if_neg y0, if_pos y1] at hz
                rcases List.mem_cons.1 hz with rfl | hz
                · refine Or.inr (List.mem_append.2 (Or.inl ?_))
                  rw [if_pos ⟨y1, by dsimp only; omega⟩]
                  dsimp only
                  rw [Int.toNat_natCast]
                  exact List.mem_cons_self ..
                · rcases hI hz with h | h
                  · exact Or.inl h
                  · exact Or.inr (List.mem_append.2 (Or.inr h))
            · have x2 : x.1 = 2 := by have := hp x (List.mem_cons_self ..); omega
              have e : it o (x :: p) = (-1, x.2) :: it o p := by rw [it_cons, if_neg x0, if_neg x1]
              rw [e, List.length_cons] at hr
              rw [if_neg x0] at hz
              rw [e, gd_cons, if_neg x0, if_neg x1, qd_cons _ _ _ y2]
              have hI := ih p q o (by omega) hp' hq' (by omega) z
              have hz' : z ∈ gd o (comp p q) := by
                by_cases y0 : y.1 = 0
                · rw [if_pos y0, gd_cons, if_neg x0, if_neg x1] at hz; exact hz
                · rw [if_neg y0] at hz; exact hz
              rcases hI hz' with h | h
              · exact Or.inl h
              · exact Or.inr (List.mem_append.2 (Or.inr h))
theorem gd_lo (s : List (Nat × ByteArray)) : ∀ o, ∀ z ∈ gd o s, o ≤ z.1 := by
  induction s with
  | nil => intro o z hz; cases hz
  | cons x s ih =>
    intro o z hz
    rw [gd_cons] at hz
    split at hz
    · exact Nat.le_of_succ_le (ih _ z hz)
    · split at hz
      · rcases List.mem_cons.1 hz with rfl | hz
        · exact Nat.le_refl _
        · exact Nat.le_of_succ_le (ih _ z hz)
      · exact ih _ z hz
theorem it_lo (s : List (Nat × ByteArray)) : ∀ (o : Nat), ∀ m ∈ it o s, m.1 < 0 ∨ (o : Int) ≤ m.1 := by
  induction s with
  | nil => intro o m hm; cases hm
  | cons x s ih =>
    intro o m hm
    rw [it_cons] at hm
    split at hm
    · rcases List.mem_cons.1 hm with rfl | hm
      · exact Or.inr (Int.le_refl _)
      · have := ih _ m hm; omega
    · split at hm
      · have := ih _ m hm; omega
      · rcases List.mem_cons.1 hm with rfl | hm
        · exact Or.inl (by simp)
        · exact ih _ m hm
/-- what is deleted no longer stands among the lines -/
theorem gd_it (s : List (Nat × ByteArray)) : ∀ (o : Nat), ∀ z ∈ gd o s, ∀ m ∈ it o s, m.1 ≠ (z.1 : Int) := by
  induction s with
  | nil => intro o z hz; cases hz
  | cons x s ih =>
    intro o z hz m hm
    rw [gd_cons] at hz
    rw [it_cons] at hm
    by_cases x0 : x.1 = 0
    · rw [if_pos x0] at hz hm
      have h1 := gd_lo s _ z hz
      rcases List.mem_cons.1 hm with rfl | hm
      · dsimp only; omega
      · exact ih _ z hz m hm
    · rw [if_neg x0] at hz hm
      by_cases x1 : x.1 = 1
      · rw [if_pos x1] at hz hm
        rcases List.mem_cons.1 hz with rfl | hz
        · have := it_lo s _ m hm
          dsimp only; omega
        · exact ih _ z hz m hm
      · rw [if_neg x1] at hz hm
        rcases List.mem_cons.1 hm with rfl | hm
        · dsimp only; omega
        · exact ih _ z hz m hm
theorem it_up (s : List (Nat × ByteArray)) : ∀ (o : Nat), (it o s).Pairwise (fun a b => 0 ≤ a.1 → 0 ≤ b.1 → a.1 < b.1) := by
  induction s with
  | nil => intro o; exact List.Pairwise.nil
  | cons x s ih =>
    intro o
    rw [it_cons]
    split
    · refine List.pairwise_cons.2 ⟨fun b hb _ h => ?_, ih _⟩
      have := it_lo s _ b hb
      dsimp only; omega
    · split
      · exact ih _
      · exact List.pairwise_cons.2 ⟨fun b _ h _ => by dsimp only at h; omega, ih _⟩
theorem qd_mem (q : List (Nat × ByteArray)) : ∀ (l : List (Int × ByteArray)), ∀ z ∈ qd q l, ∃ m ∈ l, m.1 = (z.1 : Int) := by
  induction q with
  | nil => intro l z hz; cases hz
  | cons y q ih =>
    intro l z hz
    by_cases y2 : y.1 = 2
    · rw [qd_ins _ _ y2] at hz; exact ih l z hz
    · cases l with
      | nil => rw [qd, if_neg y2] at hz; cases hz
      | cons m l =>
        rw [qd_cons _ _ _ y2] at hz
        rcases List.mem_append.1 hz with hz | hz
        · split at hz
          · rename_i h
            rw [List.mem_singleton.1 hz]
            exact ⟨m, List.mem_cons_self .., by have := h.2; dsimp only; omega⟩
          · cases hz
        · obtain ⟨m', hm, e⟩ := ih l z hz
          exact ⟨m', List.mem_cons_of_mem _ hm, e⟩
theorem qd_nodup (q : List (Nat × ByteArray)) : ∀ (l : List (Int × ByteArray)), l.Pairwise (fun a b => 0 ≤ a.1 → 0 ≤ b.1 → a.1 < b.1) → (qd q l).Pairwise (fun a b => a.1 ≠ b.1) := by
  induction q with
  | nil => intro l _; exact List.Pairwise.nil
  | cons y q ih =>
    intro l hl
    by_cases y2 : y.1 = 2
    · rw [qd_ins _ _ y2]; exact ih l hl
    · cases l with
      | nil => rw [qd, if_neg y2]; exact List.Pairwise.nil
      | cons m l =>
        obtain ⟨h1, h2⟩ := List.pairwise_cons.1 hl
        rw [qd_cons _ _ _ y2]
        split
        · rename_i h
          refine List.pairwise_cons.2 ⟨fun b hb => ?_, ih l h2⟩
          obtain ⟨m', hm, e⟩ := qd_mem q l b hb
          have := h1 m' hm h.2 (by omega)
          have := h.2
          dsimp only; omega
        · exact ih l h2
/-- stores by number -/
def sets (g : List ByteArray) (L : List (Nat × ByteArray)) : List ByteArray := L.foldl (fun g z => g.set z.1 z.2) g
theorem sets_len (L : List (Nat × ByteArray)) : ∀ g, (sets g L).length = g.length := by
  induction L with
  | nil => intro g; rfl
  | cons z L ih => intro g; show (sets (g.set z.1 z.2) L).length = _; rw [ih, List.length_set]
theorem sets_far (L : List (Nat × ByteArray)) : ∀ (g : List ByteArray) (k : Nat), (∀ z ∈ L, z.1 ≠ k) → (sets g L)[k]? = g[k]? := by
  induction L with
  | nil => intro g k _; rfl
  | cons z L ih =>
    intro g k h
    show (sets (g.set z.1 z.2) L)[k]? = _
    rw [ih _ k (fun y hy => h y (List.mem_cons_of_mem _ hy)), List.getElem?_set_ne (h z (List.mem_cons_self ..))]
theorem sets_at (L : List (Nat × ByteArray)) : ∀ (g : List ByteArray), L.Pairwise (fun a b => a.1 ≠ b.1) → ∀ z ∈ L, z.1 < g.length → (sets g L)[z.1]? = some z.2 := by
  induction L with
  | nil => intro g _ z hz; cases hz
  | cons y L ih =>
    intro g hp z hz hl
    obtain ⟨h1, h2⟩ := List.pairwise_cons.1 hp
    show (sets (g.set y.1 y.2) L)[z.1]? = _
    rcases List.mem_cons.1 hz with rfl | hz
    · rw [sets_far L _ _ (fun x hx => (h1 x hx).symm), List.getElem?_set_self hl]
    · exact ih _ h2 z hz (by rw [List.length_set]; exact hl)
theorem comp_cd_le (n : Nat) : ∀ (p q : List (Nat × ByteArray)), p.length + q.length ≤ n → Cd p → Cd q → Cd (comp p q) := by
  induction n with
  | zero =>
    intro p q hn hp hq
    have h1 : p = [] := List.length_eq_zero_iff.1 (by omega)
    subst h1
    rw [comp_nil]; exact hq
  | succ n ih =>
    intro p q hn hp hq
    cases p with
    | nil => rw [comp_nil]; exact hq
    | cons x p =>
      cases q with
      | nil => rw [comp_nil']; exact hp
      | cons y q =>
        have hp' : Cd p := fun z hz => hp z (List.mem_cons_of_mem _ hz)
        have hq' : Cd q := fun z hz => hq z (List.mem_cons_of_mem _ hz)
        simp only [List.length_cons] at hn
        have cons : ∀ (x : Nat × ByteArray) (s : List (Nat × ByteArray)), (x.1 = 0 ∨ x.1 = 1 ∨ x.1 = 2) → Cd s → Cd (x :: s) := by
          intro x s h1 h2 z hz
          rcases List.mem_cons.1 hz with rfl | hz
          · exact h1
          · exact h2 z hz
        have a1 := ih p (y :: q) (by simp only [List.length_cons]; omega) hp' hq
        have a2 := ih (x :: p) q (by simp only [List.length_cons]; omega) hp hq'
        have a3 := ih p q (by omega) hp' hq'
        have b1 := hp x (List.mem_cons_self ..)
        have b2 := hq y (List.mem_cons_self ..)
        rw [comp_cons]
        split
        · exact cons _ _ b1 a1
        · split
          · exact cons _ _ b2 a2
          · split
            · exact cons _ _ b2 a3
            · split
              · exact cons _ _ b1 a3
              · exact a3
/-- one line more behind -/
theorem comp_one_le (n : Nat) : ∀ (p q : List (Nat × ByteArray)) (o : Nat), p.length + q.length ≤ n → Cd p → Cd q → rd q ≤ (it o p).length → comp (p ++ [(0, ByteArray.empty)]) q = comp p q ++ [(0, ByteArray.empty)] := by
  induction n with
  | zero =>
    intro p q o hn _ _ _
    have h1 : p = [] := List.length_eq_zero_iff.1 (by omega)
    have h2 : q = [] := List.length_eq_zero_iff.1 (by omega)
    subst h1 h2
    rw [comp_nil', comp_nil]
  | succ n ih =>
    intro p q o hn hp hq hr
    cases q with
    | nil => rw [comp_nil', comp_nil']
    | cons y q =>
      have hq' : Cd q := fun z hz => hq z (List.mem_cons_of_mem _ hz)
      rw [rd_cons] at hr
      cases p with
      | nil =>
        have hy : y.1 = 2 := by
          rcases Nat.decEq y.1 2 with h | h
          · rw [if_neg h] at hr; simp [it] at hr
          · exact h
        rw [if_pos hy] at hr
        have hI := ih [] q o (by simp only [List.length_cons] at hn ⊢; omega) hp hq' (by omega)
        rw [comp_nil, List.nil_append] at hI
        rw [List.nil_append, comp_cons, if_neg (by simp), if_pos hy, hI, comp_nil]; rfl
      | cons x p =>
        have hp' : Cd p := fun z hz => hp z (List.mem_cons_of_mem _ hz)
        simp only [List.length_cons] at hn
        rw [List.cons_append, comp_cons, comp_cons, ← List.cons_append]
        by_cases x1 : x.1 = 1
        · have e : it o (x :: p) = it (o + 1) p := by rw [it_cons, if_neg (by omega), if_pos x1]
          rw [e] at hr
          rw [if_pos x1, if_pos x1, ih p (y :: q) (o + 1) (by simp only [List.length_cons]; omega) hp' hq (by rw [rd_cons]; exact hr)]; rfl
        · rw [if_neg x1, if_neg x1]
          by_cases y2 : y.1 = 2
          · rw [if_pos y2] at hr
            rw [if_pos y2, if_pos y2, ih (x :: p) q o (by simp only [List.length_cons]; omega) hp hq' (by omega)]; rfl
          · rw [if_neg y2] at hr
            rw [if_neg y2, if_neg y2]
            by_cases x0 : x.1 = 0
            · have e : it o (x :: p) = ((o : Int), ByteArray.empty) :: it (o + 1) p := by rw [it_cons, if_pos x0]
              rw [e, List.length_cons] at hr
              rw [if_pos x0, if_pos x0, ih p q (o + 1) (by omega) hp' hq' (by omega)]; rfl
            · have e : it o (x :: p) = (-1, x.2) :: it o p := by rw [it_cons, if_neg x0, if_neg x1]
              rw [e, List.length_cons] at hr
              rw [if_neg x0, if_neg x0, ih p q o (by omega) hp' hq' (by omega)]
              split <;> rfl
theorem cd_sp (b : Bool) (hs : List H) : ∀ k, Cd (sp b k hs) := by
  induction hs with
  | nil => intro k x hx; cases hx
  | cons h r ih =>
    intro k x hx
    rw [sp] at hx
    rcases List.mem_append.1 hx with hx | hx
    · rw [List.eq_of_mem_replicate hx]; exact Or.inl rfl
    · rcases List.mem_append.1 hx with hx | hx
      · unfold hkS ds is at hx
        split at hx <;> rcases List.mem_append.1 hx with hx | hx <;> obtain ⟨y, -, rfl⟩ := List.mem_map.1 hx <;> simp
      · exact ih _ x hx
/-- the reference's way: number the lines that p leaves, run q over them, read the patch off -/
theorem ref_cm {p q : List H} (c : Nat) (g : List ByteArray) (hr : rd (sp true 0 q) ≤ (it 0 (sp false 0 p ++ ks c)).length) (hg : ∀ z ∈ gd 0 (sp false 0 p ++ ks (c + 1)), g[z.1]? = some z.2)
    (hl : ∀ m ∈ it 0 (sp false 0 p ++ ks (c + 1)), m.1 < g.length) :
    ro (sets g (qd (sp true 0 q) (it 0 (sp false 0 p ++ ks (c + 1))))) 0 [] (rn (sp true 0 q) (it 0 (sp false 0 p ++ ks (c + 1)))) = cm p q := by
  have hq := cd_sp true q 0
  have hP : ∀ n, Cd (sp false 0 p ++ ks n) := by
    intro n x hx
    rcases List.mem_append.1 hx with hx | hx
    · exact cd_sp false p 0 x hx
    · rw [List.eq_of_mem_replicate hx]; exact Or.inl rfl
  have e1 : sp false 0 p ++ ks (c + 1) = (sp false 0 p ++ ks c) ++ [(0, ByteArray.empty)] := by rw [List.append_assoc, ks_add]; rfl
  have len : (it 0 (sp false 0 p ++ ks c)).length ≤ (it 0 (sp false 0 p ++ ks (c + 1))).length := by
    rw [e1]
    have : ∀ (s : List (Nat × ByteArray)) (o : Nat), (it o s).length ≤ (it o (s ++ [(0, ByteArray.empty)])).length := by
      intro s
      induction s with
      | nil => intro o; exact Nat.zero_le _
      | cons x s ih =>
        intro o
        rw [List.cons_append, it_cons, it_cons]
        split
        · have := ih (o + 1); simp only [List.length_cons]; omega
        · split
          · exact ih _
          · have := ih o; simp only [List.length_cons]; omega
    exact this _ 0
  have hr' := Nat.le_trans hr len
  rw [← it_comp (hP _) hq hr']
  have hgn := gd_comp_le _ (sp false 0 p ++ ks (c + 1)) (sp true 0 q) 0 (Nat.le_refl _) (hP _) hq hr'
  have e2 : comp (sp false 0 p ++ ks (c + 1)) (sp true 0 q) = comp (sp false 0 p ++ ks c) (sp true 0 q) ++ [(0, ByteArray.empty)] := by
    rw [e1]; exact comp_one_le _ _ _ 0 (Nat.le_refl _) (hP _) hq hr
  have hcd := comp_cd_le _ (sp false 0 p ++ ks c) (sp true 0 q) (Nat.le_refl _) (hP _) hq
  have hup := qd_nodup (sp true 0 q) _ (it_up (sp false 0 p ++ ks (c + 1)) 0)
  have key : Gn (sets g (qd (sp true 0 q) (it 0 (sp false 0 p ++ ks (c + 1))))) 0 (comp (sp false 0 p ++ ks c) (sp true 0 q) ++ [(0, ByteArray.empty)]) := by
    rw [← e2]
    refine gn_gd _ _ 0 (comp_cd_le _ _ _ (Nat.le_refl _) (hP _) hq) (fun z hz => ?_)
    rcases hgn z hz with h | h
    · rw [sets_far _ _ _ (fun y hy e => by
        obtain ⟨m, hm, e'⟩ := qd_mem _ _ y hy
        exact gd_it _ 0 z h m hm (by rw [e', e]))]
      exact hg z h
    · obtain ⟨m, hm, e'⟩ := qd_mem _ _ z h
      exact sets_at _ _ hup z h (by have := hl m hm; omega)
  rw [e2, ro_pof _ _ hcd key]
  obtain ⟨e, he⟩ := comp_keeps (p := sp false 0 p) (q := sp true 0 q) (ke_sp false p 0) c 0
  rw [show ks 0 = [] from rfl, List.append_nil] at he
  rw [he, pof_keeps]; rfl
end Go.Proofs.Ytbgnckbgpiajjaa.Tp
namespace Go.Proofs.Ytbgnckbgpiajjaa.Tp
open Go.RowKit

/-- how many old lines steps go over -/
def ol : List (Nat × ByteArray) → Nat
  | [] => 0
  | x :: s => (if x.1 = 0 ∨ x.1 = 1 then 1 else 0) + ol s
theorem ol_cons (x : Nat × ByteArray) (s : List (Nat × ByteArray)) : ol (x :: s) = (if x.1 = 0 ∨ x.1 = 1 then 1 else 0) + ol s := rfl
theorem ol_app (s s' : List (Nat × ByteArray)) : ol (s ++ s') = ol s + ol s' := by
  induction s with
  | nil => rw [List.nil_append, ol, Nat.zero_add]
  | cons x s ih => rw [List.cons_append, ol_cons, ol_cons, ih, Nat.add_assoc]
theorem it_app (s s' : List (Nat × ByteArray)) : ∀ o, it o (s ++ s') = it o s ++ it (o + ol s) s' := by
  induction s with
  | nil => intro o; rfl
  | cons x s ih =>
    intro o
    rw [List.cons_append, it_cons, it_cons, ol_cons]
    by_cases x0 : x.1 = 0
    · rw [if_pos x0, if_pos x0, if_pos (Or.inl x0), ih, List.cons_append, show o + 1 + ol s = o + (1 + ol s) by omega]
    · rw [if_neg x0, if_neg x0]
      by_cases x1 : x.1 = 1
      · rw [if_pos x1, if_pos x1, if_pos (Or.inr x1), ih, show o + 1 + ol s = o + (1 + ol s) by omega]
      · rw [if_neg x1, if_neg x1, if_neg (by omega), ih, List.cons_append, Nat.zero_add]
theorem gd_app (s s' : List (Nat × ByteArray)) : ∀ o, gd o (s ++ s') = gd o s ++ gd (o + ol s) s' := by
  induction s with
  | nil => intro o; rfl
  | cons x s ih =>
    intro o
    rw [List.cons_append, gd_cons, gd_cons, ol_cons]
    by_cases x0 : x.1 = 0
    · rw [if_pos x0, if_pos x0, if_pos (Or.inl x0), ih, show o + 1 + ol s = o + (1 + ol s) by omega]
    · rw [if_neg x0, if_neg x0]
      by_cases x1 : x.1 = 1
      · rw [if_pos x1, if_pos x1, if_pos (Or.inr x1), ih, List.cons_append, show o + 1 + ol s = o + (1 + ol s) by omega]
      · rw [if_neg x1, if_neg x1, if_neg (by omega), ih, Nat.zero_add]
theorem ol_keeps (n : Nat) : ol (ks n) = n := by
  induction n with
  | zero => rfl
  | succ n ih => rw [ks_succ, ol_cons, if_pos (Or.inl rfl), ih, Nat.add_comm]
theorem ol_dels (l : List ByteArray) : ol (ds l) = l.length := by
  induction l with
  | nil => rfl
  | cons x l ih =>
    have e : ds (x :: l) = (1, x) :: ds l := rfl
    rw [e, ol_cons, if_pos (Or.inr rfl), ih, List.length_cons, Nat.add_comm]
theorem ol_inss (l : List ByteArray) : ol (is l) = 0 := by
  induction l with
  | nil => rfl
  | cons x l ih =>
    have e : is (x :: l) = (2, x) :: is l := rfl
    rw [e, ol_cons, if_neg (by simp), ih]
theorem ol_hk (b : Bool) (h : H) : ol (hkS b h) = h.old.length := by
  unfold hkS
  split <;> rw [ol_app, ol_dels, ol_inss] <;> omega
theorem it_keeps (n : Nat) : ∀ o, it o (ks n) = (List.range n).map (fun (i : Nat) => (((o + i : Nat) : Int), ByteArray.empty)) := by
  induction n with
  | zero => intro o; rfl
  | succ n ih =>
    intro o
    rw [ks_succ, it_cons, if_pos rfl, ih, List.range_succ_eq_map, List.map_cons, List.map_map]
    congr 1
    refine List.map_congr_left (fun i _ => ?_)
    simp only [Function.comp]
    congr 2; omega
theorem it_dels (l : List ByteArray) : ∀ o, it o (ds l) = [] := by
  induction l with
  | nil => intro o; rfl
  | cons x l ih =>
    intro o
    have e : ds (x :: l) = (1, x) :: ds l := rfl
    rw [e, it_cons, if_neg (by simp), if_pos rfl, ih]
theorem it_inss (l : List ByteArray) : ∀ o, it o (is l) = l.map (fun x => (-1, x)) := by
  induction l with
  | nil => intro o; rfl
  | cons x l ih =>
    intro o
    have e : is (x :: l) = (2, x) :: is l := rfl
    rw [e, it_cons, if_neg (by simp), if_neg (by simp), ih]; rfl
theorem it_hk (b : Bool) (h : H) (o : Nat) : it o (hkS b h) = h.new.map (fun x => (-1, x)) := by
  unfold hkS
  split
  · rw [it_app, it_inss, it_dels, List.append_nil]
  · rw [it_app, it_dels, it_inss, List.nil_append]
theorem gd_keeps (n : Nat) : ∀ o, gd o (ks n) = [] := by
  induction n with
  | zero => intro o; rfl
  | succ n ih => intro o; rw [ks_succ, gd_cons, if_pos rfl, ih]
theorem gd_inss (l : List ByteArray) : ∀ o, gd o (is l) = [] := by
  induction l with
  | nil => intro o; rfl
  | cons x l ih =>
    intro o
    have e : is (x :: l) = (2, x) :: is l := rfl
    rw [e, gd_cons, if_neg (by simp), if_neg (by simp), ih]
theorem gd_dels (l : List ByteArray) : ∀ (o : Nat) (z : Nat × ByteArray), z ∈ gd o (ds l) ↔ ∃ j, ∃ (hj : j < l.length), z = (o + j, l[j]) := by
  induction l with
  | nil => intro o z; exact ⟨fun h => (by cases h), fun h => (by obtain ⟨j, hj, _⟩ := h; simp at hj)⟩
  | cons x l ih =>
    intro o z
    have e : ds (x :: l) = (1, x) :: ds l := rfl
    rw [e, gd_cons, if_neg (by simp), if_pos rfl, List.mem_cons, ih]
    constructor
    · rintro (rfl | ⟨j, hj, rfl⟩)
      · exact ⟨0, by simp, rfl⟩
      · exact ⟨j + 1, by simp only [List.length_cons]; omega, by rw [List.getElem_cons_succ, show o + 1 + j = o + (j + 1) by omega]⟩
    · rintro ⟨j, hj, rfl⟩
      cases j with
      | zero => exact Or.inl rfl
      | succ j => exact Or.inr ⟨j, by simp only [List.length_cons] at hj; omega, by rw [List.getElem_cons_succ, show o + 1 + j = o + (j + 1) by omega]⟩
/-! running over numbered lines -/
theorem rn_keeps (n : Nat) (s : List (Nat × ByteArray)) : ∀ (l : List (Int × ByteArray)), n ≤ l.length → rn (ks n ++ s) l = l.take n ++ rn s (l.drop n) := by
  induction n with
  | zero => intro l _; rfl
  | succ n ih =>
    intro l hl
    cases l with
    | nil => simp at hl
    | cons m l =>
      simp only [List.length_cons] at hl
      rw [ks_succ, List.cons_append, rn_keep _ _ _ rfl, ih l (by omega), List.take_succ_cons, List.drop_succ_cons, List.cons_append]
theorem rn_inss (x : List ByteArray) (s : List (Nat × ByteArray)) (l : List (Int × ByteArray)) : rn (is x ++ s) l = x.map (fun x => (-1, x)) ++ rn s l := by
  induction x with
  | nil => rfl
  | cons z x ih =>
    have e : is (z :: x) ++ s = (2, z) :: (is x ++ s) := rfl
    rw [e, rn_ins _ _ rfl, ih]; rfl
theorem rn_dels (x : List ByteArray) (s : List (Nat × ByteArray)) : ∀ (l : List (Int × ByteArray)), x.length ≤ l.length → rn (ds x ++ s) l = rn s (l.drop x.length) := by
  induction x with
  | nil => intro l _; rfl
  | cons z x ih =>
    intro l hl
    cases l with
    | nil => simp at hl
    | cons m l =>
      simp only [List.length_cons] at hl
      have e : ds (z :: x) ++ s = (1, z) :: (ds x ++ s) := rfl
      rw [e, rn_del _ _ _ rfl, ih l (by omega), List.length_cons, List.drop_succ_cons]
theorem rn_nil (l : List (Int × ByteArray)) : rn [] l = l := rfl
theorem qd_keeps (n : Nat) (s : List (Nat × ByteArray)) : ∀ (l : List (Int × ByteArray)), n ≤ l.length → qd (ks n ++ s) l = qd s (l.drop n) := by
  induction n with
  | zero => intro l _; rfl
  | succ n ih =>
    intro l hl
    cases l with
    | nil => simp at hl
    | cons m l =>
      simp only [List.length_cons] at hl
      rw [ks_succ, List.cons_append, qd_cons _ _ _ (by simp), if_neg (by simp), List.nil_append, ih l (by omega), List.drop_succ_cons]
theorem qd_inss (x : List ByteArray) (s : List (Nat × ByteArray)) (l : List (Int × ByteArray)) : qd (is x ++ s) l = qd s l := by
  induction x with
  | nil => rfl
  | cons z x ih =>
    have e : is (z :: x) ++ s = (2, z) :: (is x ++ s) := rfl
    rw [e, qd_ins _ _ rfl, ih]
/-- the numbered ones among the lines that are deleted -/
def qh : List ByteArray → List (Int × ByteArray) → List (Nat × ByteArray)
  | z :: x, m :: l => (if 0 ≤ m.1 then [(m.1.toNat, z)] else []) ++ qh x l
  | _, _ => []
theorem qd_dels (x : List ByteArray) (s : List (Nat × ByteArray)) : ∀ (l : List (Int × ByteArray)), x.length ≤ l.length → qd (ds x ++ s) l = qh x l ++ qd s (l.drop x.length) := by
  induction x with
  | nil => intro l _; cases l <;> rfl
  | cons z x ih =>
    intro l hl
    cases l with
    | nil => simp at hl
    | cons m l =>
      simp only [List.length_cons] at hl
      have e : ds (z :: x) ++ s = (1, z) :: (ds x ++ s) := rfl
      rw [e, qd_cons _ _ _ (by simp), ih l (by omega), List.length_cons, List.drop_succ_cons, qh]
      simp
theorem rn_hk (b : Bool) (h : H) (s : List (Nat × ByteArray)) (l : List (Int × ByteArray)) (hl : h.old.length ≤ l.length) : rn (hkS b h ++ s) l = h.new.map (fun x => (-1, x)) ++ rn s (l.drop h.old.length) := by
  unfold hkS
  split
  · rw [List.append_assoc, rn_inss, rn_dels _ _ _ hl]
  · rw [List.append_assoc, rn_dels _ _ _ hl, rn_inss]
theorem qd_hk (b : Bool) (h : H) (s : List (Nat × ByteArray)) (l : List (Int × ByteArray)) (hl : h.old.length ≤ l.length) : qd (hkS b h ++ s) l = qh h.old l ++ qd s (l.drop h.old.length) := by
  unfold hkS
  split
  · rw [List.append_assoc, qd_inss, qd_dels _ _ _ hl]
  · rw [List.append_assoc, qd_dels _ _ _ hl, qd_inss]
theorem sets_app (g : List ByteArray) (L L' : List (Nat × ByteArray)) : sets g (L ++ L') = sets (sets g L) L' := by unfold sets; rw [List.foldl_append]
/-- one hunk more -/
theorem sp_snoc (b : Bool) (hs : List H) (h : H) : ∀ (k : Nat) (prev : Int), Ch prev hs → k = prev.toNat → sp b k (hs ++ [h]) = sp b k hs ++ (ks (h.at'.toNat - (lastE prev hs).toNat) ++ hkS b h) := by
  induction hs with
  | nil =>
    intro k prev _ e
    subst e
    rw [List.nil_append, sp, sp, sp, List.append_nil, List.nil_append]
    rfl
  | cons x r ih =>
    intro k prev hc _
    have g2 := hc.1.lo
    have e1 : (en x : Int) = x.at' + x.old.length := rfl
    rw [List.cons_append, sp, sp, List.append_assoc, List.append_assoc, ih (en x).toNat (en x) hc.2 rfl]
    rfl
theorem ol_sp (b : Bool) (hs : List H) : ∀ (k : Nat) (prev : Int), Ch prev hs → k = prev.toNat → (k : Int) ≤ prev + 1 → k + ol (sp b k hs) = (lastE prev hs).toNat := by
  induction hs with
  | nil => intro k prev _ e _; exact e
  | cons x r ih =>
    intro k prev hc e hk
    have g1 := hc.1.gap; have g2 := hc.1.lo
    have e1 : (en x : Int) = x.at' + x.old.length := rfl
    have := ih (en x).toNat (en x) hc.2 rfl (by omega)
    have e2 : lastE prev (x :: r) = lastE (en x) r := rfl
    rw [sp, ol_app, ol_app, ol_keeps, ol_hk, e2, ← this]
    omega
end Go.Proofs.Ytbgnckbgpiajjaa.Tp
namespace Go.Proofs.Ytbgnckbgpiajjaa.Tp
open Go.RowKit

theorem comp_kk (a : Nat) (p q : List (Nat × ByteArray)) : comp (ks a ++ p) (ks a ++ q) = ks a ++ comp p q := by
  induction a with
  | zero => rfl
  | succ a ih => rw [ks_succ, List.cons_append, List.cons_append, comp_cons, if_neg (by simp), if_neg (by simp), if_pos rfl, ih]; rfl
theorem comp_ik (x : List ByteArray) (p q : List (Nat × ByteArray)) : comp (is x ++ p) (ks x.length ++ q) = is x ++ comp p q := by
  induction x with
  | nil => rfl
  | cons y x ih =>
    have e : is (y :: x) ++ p = (2, y) :: (is x ++ p) := rfl
    rw [e, List.length_cons, ks_succ, List.cons_append, comp_cons, if_neg (by simp), if_neg (by simp), if_neg (by simp), if_pos rfl, ih]; rfl
theorem comp_kd (x : List ByteArray) (p q : List (Nat × ByteArray)) : comp (ks x.length ++ p) (ds x ++ q) = ds x ++ comp p q := by
  induction x with
  | nil => rfl
  | cons y x ih =>
    have e : ds (y :: x) ++ q = (1, y) :: (ds x ++ q) := rfl
    rw [e, List.length_cons, ks_succ, List.cons_append, comp_cons, if_neg (by simp), if_neg (by simp), if_pos rfl, ih]; rfl
/-- keeps at the beginning -/
theorem sp_keeps (b : Bool) (hs : List H) (k n : Nat) (h : ∀ o ∈ hs, ((k + n : Nat) : Int) ≤ o.at') (hne : hs ≠ []) : sp b k hs = ks n ++ sp b (k + n) hs := by
  cases hs with
  | nil => exact (hne rfl).elim
  | cons o r =>
    have := h o (List.mem_cons_self ..)
    rw [sp, sp, show o.at'.toNat - k = n + (o.at'.toNat - (k + n)) by omega, ks_add, List.append_assoc]
/-- two patches of one text, side by side -/
def mg : List H → List H → List H
  | [], a => a
  | h :: p, [] => h :: p
  | h :: p, x :: a => if h.at' < x.at' then h :: mg p (x :: a) else x :: mg (h :: p) a
  termination_by p a => p.length + a.length
theorem mg_nil (a : List H) : mg [] a = a := by rw [mg]
theorem mg_nil' (p : List H) : mg p [] = p := by cases p <;> rw [mg]
theorem mg_cons (h x : H) (p a : List H) : mg (h :: p) (x :: a) = if h.at' < x.at' then h :: mg p (x :: a) else x :: mg (h :: p) a := by rw [mg]
theorem mg_comm_le (n : Nat) : ∀ (p a : List H), p.length + a.length ≤ n → (∀ h ∈ p, ∀ x ∈ a, h.at' ≠ x.at') → mg p a = mg a p := by
  induction n with
  | zero =>
    intro p a hn _
    have h1 : p = [] := List.length_eq_zero_iff.1 (by omega)
    have h2 : a = [] := List.length_eq_zero_iff.1 (by omega)
    subst h1 h2; rfl
  | succ n ih =>
    intro p a hn hne
    cases p with
    | nil => rw [mg_nil, mg_nil']
    | cons h p =>
      cases a with
      | nil => rw [mg_nil, mg_nil']
      | cons x a =>
        simp only [List.length_cons] at hn
        have d := hne h (List.mem_cons_self ..) x (List.mem_cons_self ..)
        rw [mg_cons, mg_cons]
        by_cases e : h.at' < x.at'
        · rw [if_pos e, if_neg (by omega), ih p (x :: a) (by simp only [List.length_cons]; omega) (fun o ho => hne o (List.mem_cons_of_mem _ ho))]
        · rw [if_neg e, if_pos (by omega), ih (h :: p) a (by simp only [List.length_cons]; omega) (fun o ho y hy => hne o ho y (List.mem_cons_of_mem _ hy))]
/-- the steps of both, side by side -/
def sm : Nat → List H → List H → List (Nat × ByteArray)
  | k, [], a => sp true k a
  | k, h :: p, [] => sp false k (h :: p)
  | k, h :: p, x :: a => if h.at' < x.at' then ks (h.at'.toNat - k) ++ (hkS false h ++ sm (en h).toNat p (x :: a)) else ks (x.at'.toNat - k) ++ (hkS true x ++ sm (en x).toNat (h :: p) a)
  termination_by _ p a => p.length + a.length
theorem sm_nil (k : Nat) (a : List H) : sm k [] a = sp true k a := by rw [sm]
theorem sm_nil' (k : Nat) (h : H) (p : List H) : sm k (h :: p) [] = sp false k (h :: p) := by rw [sm]
theorem sm_cons (k : Nat) (h x : H) (p a : List H) : sm k (h :: p) (x :: a) = if h.at' < x.at' then ks (h.at'.toNat - k) ++ (hkS false h ++ sm (en h).toNat p (x :: a)) else ks (x.at'.toNat - k) ++ (hkS true x ++ sm (en x).toNat (h :: p) a) := by rw [sm]
theorem sp_mv (hs : List H) : ∀ (prev : Int) (k j : Nat) (g : Int), Gp prev hs → (k : Int) ≤ prev + 1 → (j : Int) = k + g → 0 ≤ prev + 1 → sp true j (mv g [] hs) = sp true k hs := by
  induction hs with
  | nil => intro prev k j g _ _ _ _; rfl
  | cons h r ih =>
    intro prev k j g hc hk hj hp
    have g1 := hc.1
    have e1 : (en h : Int) = h.at' + h.old.length := rfl
    have e2 : mv g [] (h :: r) = ⟨h.at' + g + gb h.at' [], h.old, h.new⟩ :: mv g [] r := rfl
    have e3 : gb h.at' [] = 0 := rfl
    have e4 : en (⟨h.at' + g + gb h.at' [], h.old, h.new⟩ : H) = h.at' + g + h.old.length := by rw [e3, Int.add_zero]; rfl
    have e5 : hkS true (⟨h.at' + g + gb h.at' [], h.old, h.new⟩ : H) = hkS true h := rfl
    rw [e2, sp, sp, e5, ih (en h) (en h).toNat (en (⟨h.at' + g + gb h.at' [], h.old, h.new⟩ : H)).toNat g hc.2 (by omega) (by rw [e4]; omega) (by omega), e3]
    dsimp only
    rw [show (h.at' + g + 0).toNat - j = h.at'.toNat - k by omega]
/-- p, and a moved behind it: the composition has the steps of both -/
theorem comp_sm (m : Nat) : ∀ (p a : List H) (prev : Int) (k j : Nat) (g : Int), p.length + a.length ≤ m → Gp prev p → Gp prev a → (∀ o ∈ p, Aw o a) → 0 ≤ prev + 1 → (k : Int) ≤ prev + 1 → (j : Int) = k + g →
    comp (sp false k p) (sp true j (mv g (cg p) a)) = sm k p a := by
  induction m with
  | zero =>
    intro p a prev k j g hm _ _ _ _ _ _
    have h1 : p = [] := List.length_eq_zero_iff.1 (by omega)
    have h2 : a = [] := List.length_eq_zero_iff.1 (by omega)
    subst h1 h2
    rw [sm_nil]; exact comp_nil _
  | succ m ih =>
    intro p a prev k j g hm gp ga aw hp hk hj
    cases p with
    | nil => rw [sm_nil, show sp false k [] = [] from rfl, comp_nil]; exact sp_mv a prev k j g ga hk hj hp
    | cons h p =>
      cases a with
      | nil => rw [sm_nil', show mv g (cg (h :: p)) [] = [] from rfl, show sp true j [] = [] from rfl, comp_nil']
      | cons x a =>
        simp only [List.length_cons] at hm
        obtain ⟨p1, p2⟩ := gp
        obtain ⟨a1, a2⟩ := ga
        have eh : (en h : Int) = h.at' + h.old.length := rfl
        have ex : (en x : Int) = x.at' + x.old.length := rfl
        have d := aw h (List.mem_cons_self ..) x (List.mem_cons_self ..)
        rw [sm_cons]
        by_cases e : h.at' < x.at'
        · rw [if_pos e]
          have hx : en h < x.at' := by omega
          have far : ∀ o ∈ x :: a, en h < o.at' := far_all a2 hx
          have aw' : ∀ o ∈ p, Aw o (x :: a) := fun o ho => aw o (List.mem_cons_of_mem _ ho)
          rw [mv_cons far]
          have low : ∀ o ∈ mv (g + (h.new.length - h.old.length)) (cg p) (x :: a), (((j + (h.at'.toNat - k)) + h.new.length : Nat) : Int) ≤ o.at' := by
            intro o ho
            obtain ⟨y, hy, rfl⟩ := List.mem_map.1 ho
            have hl := gb_low y p (en h) p2 (far y hy) (aw_symm aw' y hy)
            dsimp only
            omega
          have hne : mv (g + (h.new.length - h.old.length)) (cg p) (x :: a) ≠ [] := by intro h0; cases h0
          rw [sp_keeps true _ j (h.at'.toNat - k) (fun o ho => by have := low o ho; omega) hne, sp_keeps true _ (j + (h.at'.toNat - k)) h.new.length low hne, sp, comp_kk]
          congr 1
          unfold hkS
          rw [if_neg (by simp), List.append_assoc, comp_dels, comp_ik, List.append_assoc]
          congr 2
          exact ih p (x :: a) (en h) (en h).toNat _ _ (by simp only [List.length_cons]; omega) p2 ⟨hx, a2⟩ aw' (by omega) (by omega) (by omega)
        · rw [if_neg e]
          have hx : en x < h.at' := by
            rcases d with d | d
            · omega
            · omega
          have far : ∀ o ∈ h :: p, en x < o.at' := far_all p2 hx
          have e2 : mv g (cg (h :: p)) (x :: a) = ⟨x.at' + g, x.old, x.new⟩ :: mv g (cg (h :: p)) a := by
            have : gb x.at' (cg (h :: p)) = 0 := gb_far far
            show (⟨x.at' + g + gb x.at' (cg (h :: p)), x.old, x.new⟩ : H) :: mv g (cg (h :: p)) a = _
            rw [this, Int.add_zero]
          have e3 : en (⟨x.at' + g, x.old, x.new⟩ : H) = x.at' + g + x.old.length := rfl
          have e4 : hkS true (⟨x.at' + g, x.old, x.new⟩ : H) = is x.new ++ ds x.old := rfl
          have low : ∀ o ∈ h :: p, (((k + (x.at'.toNat - k)) + x.old.length + 1 : Nat) : Int) ≤ o.at' := fun o ho => by have := far o ho; omega
          have eP : sp false k (h :: p) = ks (x.at'.toNat - k) ++ (ks x.old.length ++ sp false (en x).toNat (h :: p)) := by
            rw [sp_keeps false _ k (x.at'.toNat - k) (fun o ho => by have := low o ho; omega) (by intro h0; cases h0), sp_keeps false _ (k + (x.at'.toNat - k)) x.old.length (fun o ho => by have := low o ho; omega) (by intro h0; cases h0), show k + (x.at'.toNat - k) + x.old.length = (en x).toNat by omega]
          have eK : sp false (en x).toNat (h :: p) = (0, ByteArray.empty) :: sp false ((en x).toNat + 1) (h :: p) := by
            rw [sp_keeps false _ (en x).toNat 1 (fun o ho => by have := far o ho; omega) (by intro h0; cases h0)]; rfl
          have eI : ∀ q, comp (ks x.old.length ++ sp false (en x).toNat (h :: p)) (is x.new ++ q) = is x.new ++ comp (ks x.old.length ++ sp false (en x).toNat (h :: p)) q := by
            intro q
            cases hn : x.old.length with
            | zero => rw [show ks 0 = [] from rfl, List.nil_append, eK]; exact comp_inss _ (by simp) _ _ _
            | succ n => rw [ks_succ]; exact comp_inss _ (by simp) _ _ _
          rw [e2, eP, show sp true j (⟨x.at' + g, x.old, x.new⟩ :: mv g (cg (h :: p)) a) = ks ((x.at' + g).toNat - j) ++ (hkS true ⟨x.at' + g, x.old, x.new⟩ ++ sp true (en (⟨x.at' + g, x.old, x.new⟩ : H)).toNat (mv g (cg (h :: p)) a)) from rfl, e4, e3]
          rw [show (x.at' + g).toNat - j = x.at'.toNat - k by omega, comp_kk]
          congr 1
          unfold hkS
          rw [if_pos rfl, List.append_assoc, eI, comp_kd, List.append_assoc]
          congr 2
          exact ih (h :: p) a (en x) (en x).toNat _ _ (by simp only [List.length_cons]; omega) ⟨hx, p2⟩ a2 (fun o ho y hy => aw o ho y (List.mem_cons_of_mem _ hy)) (by omega) (by omega) (by omega)
theorem gp_fold (b : Bool) (r : List H) : ∀ (hs : List H) (prev : Int) (k : Nat) (o : Bool), Gp prev r → (∀ h ∈ r, 0 < h.old.length + h.new.length) → 0 ≤ prev + 1 → ((k : Int) ≤ prev + 1) → (o = true → (k : Int) ≤ prev) → ((sp b k r).foldl Dif.pst ⟨hs, k, o⟩).hs = hs ++ r := by
  induction r with
  | nil => intro hs prev k o _ _ _ _ _; simp [sp]
  | cons h r ih =>
    intro hs prev k o hch hne h0 hp ho
    obtain ⟨g1, hr⟩ := hch
    have g4 := hne h (List.mem_cons_self ..)
    have e1 : (en h : Int) = h.at' + h.old.length := rfl
    rw [sp, List.foldl_append, pst_keeps, List.foldl_append]
    have eo : (if h.at'.toNat - k = 0 then o else false) = false := by
      by_cases hz : h.at'.toNat - k = 0
      · rw [if_pos hz]
        cases o
        · rfl
        · have := ho rfl; omega
      · rw [if_neg hz]
    rw [eo, pst_hk b hs h _ (by omega) (by omega), show k + (h.at'.toNat - k) + h.old.length = (en h).toNat by omega, ih (hs ++ [h]) (en h) _ _ hr (fun x hx => hne x (List.mem_cons_of_mem _ hx)) (by omega) (by omega) (fun _ => by omega), List.append_assoc]
    rfl
/-- the patch of both -/
theorem sm_fold (m : Nat) : ∀ (p a : List H) (hs : List H) (prev : Int) (k : Nat) (o : Bool), p.length + a.length ≤ m → Gp prev p → Gp prev a → (∀ o ∈ p, Aw o a) → (∀ h ∈ p, 0 < h.old.length + h.new.length) → (∀ h ∈ a, 0 < h.old.length + h.new.length) →
    0 ≤ prev + 1 → ((k : Int) ≤ prev + 1) → (o = true → (k : Int) ≤ prev) → ((sm k p a).foldl Dif.pst ⟨hs, k, o⟩).hs = hs ++ mg p a := by
  induction m with
  | zero =>
    intro p a hs prev k o hm _ _ _ _ _ _ _ _
    have h1 : p = [] := List.length_eq_zero_iff.1 (by omega)
    have h2 : a = [] := List.length_eq_zero_iff.1 (by omega)
    subst h1 h2
    rw [sm_nil, mg_nil]; simp [sp]
  | succ m ih =>
    intro p a hs prev k o hm gp ga aw np na h0 hk ho
    cases p with
    | nil => rw [sm_nil, mg_nil]; exact gp_fold true a hs prev k o ga na h0 hk ho
    | cons h p =>
      cases a with
      | nil => rw [sm_nil', mg_nil']; exact gp_fold false (h :: p) hs prev k o gp np h0 hk ho
      | cons x a =>
        simp only [List.length_cons] at hm
        obtain ⟨p1, p2⟩ := gp
        obtain ⟨a1, a2⟩ := ga
        have eh : (en h : Int) = h.at' + h.old.length := rfl
        have ex : (en x : Int) = x.at' + x.old.length := rfl
        have d := aw h (List.mem_cons_self ..) x (List.mem_cons_self ..)
        have eo : ∀ n : Nat, ((k + n : Nat) : Int) > prev → (if n = 0 then o else false) = false := by
          intro n hn
          by_cases hz : n = 0
          · rw [if_pos hz]
            cases o
            · rfl
            · have := ho rfl; omega
          · rw [if_neg hz]
        rw [sm_cons, mg_cons]
        by_cases e : h.at' < x.at'
        · rw [if_pos e, if_pos e, List.foldl_append, pst_keeps, List.foldl_append, eo _ (by omega), pst_hk false hs h _ (by omega) (np h (List.mem_cons_self ..)), show k + (h.at'.toNat - k) + h.old.length = (en h).toNat by omega]
          rw [ih p (x :: a) (hs ++ [h]) (en h) _ _ (by simp only [List.length_cons]; omega) p2 ⟨by omega, a2⟩ (fun o ho => aw o (List.mem_cons_of_mem _ ho)) (fun y hy => np y (List.mem_cons_of_mem _ hy)) na (by omega) (by omega) (fun _ => by omega), List.append_assoc]
          rfl
        · rw [if_neg e, if_neg e, List.foldl_append, pst_keeps, List.foldl_append, eo _ (by omega), pst_hk true hs x _ (by omega) (na x (List.mem_cons_self ..)), show k + (x.at'.toNat - k) + x.old.length = (en x).toNat by omega]
          rw [ih (h :: p) a (hs ++ [x]) (en x) _ _ (by simp only [List.length_cons]; omega) ⟨by omega, p2⟩ a2 (fun o ho y hy => aw o ho y (List.mem_cons_of_mem _ hy)) np (fun y hy => na y (List.mem_cons_of_mem _ hy)) (by omega) (by omega) (fun _ => by omega), List.append_assoc]
          rfl
theorem vp_some {hs : List H} : ∀ {prev : Int}, Ch prev hs → ∀ h ∈ hs, 0 < h.old.length + h.new.length := by
  induction hs with
  | nil => intro _ _ h hh; cases hh
  | cons x r ih =>
    intro prev hc h hh
    rcases List.mem_cons.1 hh with rfl | hh
    · exact hc.1.some'
    · exact ih hc.2 h hh
/-- p, and a moved behind it -/
theorem cm_mg {p a : List H} (gp : Gp (-1) p) (ga : Gp (-1) a) (aw : ∀ o ∈ p, Aw o a) (np : ∀ h ∈ p, 0 < h.old.length + h.new.length) (na : ∀ h ∈ a, 0 < h.old.length + h.new.length) : cm p (bh a (cg p)) = mg p a := by
  unfold cm
  rw [bh_mv, comp_sm _ p a (-1) 0 0 0 (Nat.le_refl _) gp ga aw (by omega) (by omega) (by omega)]
  have := sm_fold _ p a [] (-1) 0 false (Nat.le_refl _) gp ga aw np na (by omega) (by omega) (fun e => by cases e)
  rw [List.nil_append] at this
  exact this
/-- exchanged patches compose to one patch -/
theorem Ex.composes {p q : List H} (h : Ex p q) (va : Vp (xa p q)) : cm p q = cm (xa p q) (xb p q) := by
  obtain ⟨k1, k2⟩ := h.back
  have np := vp_some h.vp.ch
  have na := vp_some va.ch
  have ga : Gp (-1) (xa p q) := ch_gp va.ch
  have e1 := cm_mg h.gp ga (aw_symm k2) np na
  rw [k1] at e1
  have e2 : cm (xa p q) (xb p q) = mg (xa p q) p := cm_mg ga h.gp k2 na np
  rw [e1, e2]
  refine mg_comm_le _ _ _ (Nat.le_refl _) (fun o ho y hy e => ?_)
  have h1 := k2 y hy o ho
  have h2 := en_ge o
  have h3 := en_ge y
  omega
theorem vd_in (K : List H) (i : Nat) (x : ByteArray) (h : vd K i = some x) : ∃ o ∈ K, o.at' ≤ i ∧ (i : Int) < en o := by
  induction K with
  | nil => cases h
  | cons y r ih =>
    rw [vd] at h
    by_cases e : y.at' ≤ i ∧ (i : Int) < en y
    · exact ⟨y, List.mem_cons_self .., e⟩
    · rw [if_neg e] at h
      obtain ⟨o, ho, k⟩ := ih h
      exact ⟨o, List.mem_cons_of_mem _ ho, k⟩
/-- patches that do not touch do not conflict -/
theorem cfi_apart (K q : List H) (aw : ∀ y ∈ q, Aw y K) (h0 : ∀ y ∈ q, 0 ≤ y.at') : ∀ i, cfi K q i = none := by
  induction q with
  | nil => intro i; rfl
  | cons y r ih =>
    intro i
    have : cfh K y = false := by
      unfold cfh
      rw [List.any_eq_false]
      intro j hj
      have hj' := List.mem_range.1 hj
      cases hv : vd K (y.at'.toNat + j) with
      | none => simp
      | some x =>
        obtain ⟨o, ho, k1, k2⟩ := vd_in K _ x hv
        have e1 : (en y : Int) = y.at' + y.old.length := rfl
        have k3 := h0 y (List.mem_cons_self ..)
        have k4 := aw y (List.mem_cons_self ..) o ho
        omega
    rw [cfi, this, if_neg (by simp)]
    exact ih (fun z hz => aw z (List.mem_cons_of_mem _ hz)) (fun z hz => h0 z (List.mem_cons_of_mem _ hz)) (i + 1)
theorem ch_pos {hs : List H} : ∀ {prev : Int}, Ch prev hs → ∀ h ∈ hs, 0 ≤ h.at' := by
  induction hs with
  | nil => intro _ _ h hh; cases hh
  | cons x r ih =>
    intro prev hc h hh
    rcases List.mem_cons.1 hh with rfl | hh
    · exact hc.1.lo
    · exact ih hc.2 h hh
theorem Ex.calm {p q : List H} (h : Ex p q) : cfi (iv 0 p) q 0 = none := cfi_apart _ _ (tch_false.1 h.nt) (ch_pos h.vq.ch) 0
end Go.Proofs.Ytbgnckbgpiajjaa.Tp
namespace Go.Proofs.Ytbgnckbgpiajjaa.Tp
open Go.RowKit

theorem vi_app (K L : List H) (i : Nat) (h : ∀ o ∈ K, o.at' ≠ i) : vi (K ++ L) i = vi L i := by
  induction K with
  | nil => rfl
  | cons o r ih =>
    rw [List.cons_append, vi, if_neg (h o (List.mem_cons_self ..)), ih (fun x hx => h x (List.mem_cons_of_mem _ hx))]
theorem vi_app' (K L : List H) (i : Nat) (h : ∀ o ∈ L, o.at' ≠ i) : vi (K ++ L) i = vi K i := by
  induction K with
  | nil =>
    rw [List.nil_append]
    have := vi_app L [] i h
    rw [List.append_nil] at this
    exact this
  | cons o r ih => rw [List.cons_append, vi, vi, ih]
theorem vd_app (K L : List H) (i : Nat) (h : ∀ o ∈ K, ¬ (o.at' ≤ i ∧ (i : Int) < en o)) : vd (K ++ L) i = vd L i := by
  induction K with
  | nil => rfl
  | cons o r ih =>
    rw [List.cons_append, vd, if_neg (h o (List.mem_cons_self ..)), ih (fun x hx => h x (List.mem_cons_of_mem _ hx))]
theorem vd_app' (K L : List H) (i : Nat) (h : ∀ o ∈ L, ¬ (o.at' ≤ i ∧ (i : Int) < en o)) : vd (K ++ L) i = vd K i := by
  induction K with
  | nil =>
    rw [List.nil_append]
    have := vd_app L [] i h
    rw [List.append_nil] at this
    exact this
  | cons o r ih => rw [List.cons_append, vd, vd, ih]
theorem gp_snoc {K : List H} {h : H} : ∀ {prev : Int}, Gp prev (K ++ [h]) → ∀ o ∈ K, en o < h.at' := by
  induction K with
  | nil => intro _ _ o ho; cases ho
  | cons x r ih =>
    intro prev hg o ho
    rcases List.mem_cons.1 ho with rfl | ho
    · exact hg.2.far h (List.mem_append.2 (Or.inr (List.mem_cons_self ..)))
    · exact ih hg.2 o ho
/-- one hunk more: ahead of its first line -/
theorem vi_snoc {K : List H} {h : H} {prev : Int} (g : Gp prev (K ++ [h])) (i : Nat) : vi (K ++ [h]) i = if h.at' = i then h.new else vi K i := by
  have f := gp_snoc g
  by_cases e : h.at' = i
  · rw [if_pos e, vi_app K [h] i (fun o ho => by have := f o ho; have := en_ge o; omega), vi, if_pos e]
  · rw [if_neg e, vi_app' K [h] i (fun o ho => by rw [List.mem_singleton.1 ho]; exact e)]
/-- its lines -/
theorem vd_snoc {K : List H} {h : H} {prev : Int} (g : Gp prev (K ++ [h])) (i : Nat) : vd (K ++ [h]) i = if h.at' ≤ i ∧ (i : Int) < en h then h.old[i - h.at'.toNat]? else vd K i := by
  have f := gp_snoc g
  by_cases e : h.at' ≤ i ∧ (i : Int) < en h
  · rw [if_pos e, vd_app K [h] i (fun o ho k => by have := f o ho; omega), vd, if_pos e]
  · rw [if_neg e, vd_app' K [h] i (fun o ho => by rw [List.mem_singleton.1 ho]; exact e)]
/-- how many places a patch touches -/
def nt : Nat → List H → Nat
  | n, [] => n
  | n, h :: r => nt (max n (h.at'.toNat + max 1 h.old.length)) r
theorem nt_snoc (K : List H) (h : H) : ∀ n, nt n (K ++ [h]) = max (nt n K) (h.at'.toNat + max 1 h.old.length) := by
  induction K with
  | nil => intro n; rfl
  | cons o r ih => intro n; rw [List.cons_append, nt, nt, ih]
theorem nt_ge (K : List H) : ∀ n, n ≤ nt n K ∧ ∀ h ∈ K, h.at'.toNat + max 1 h.old.length ≤ nt n K := by
  induction K with
  | nil => intro n; exact ⟨Nat.le_refl _, fun h hh => by cases hh⟩
  | cons o r ih =>
    intro n
    rw [nt]
    obtain ⟨h1, h2⟩ := ih (max n (o.at'.toNat + max 1 o.old.length))
    refine ⟨by omega, fun h hh => ?_⟩
    rcases List.mem_cons.1 hh with rfl | hh
    · omega
    · exact h2 h hh
theorem nt_le (K : List H) (m : Nat) : ∀ n, n ≤ m → (∀ h ∈ K, h.at'.toNat + max 1 h.old.length ≤ m) → nt n K ≤ m := by
  induction K with
  | nil => intro n hn _; exact hn
  | cons o r ih =>
    intro n hn h
    rw [nt]
    exact ih _ (by have := h o (List.mem_cons_self ..); omega) (fun x hx => h x (List.mem_cons_of_mem _ hx))
/-- behind them nothing is done -/
theorem v_far (K : List H) (h0 : ∀ h ∈ K, 0 ≤ h.at') (n : Nat) (hn : ∀ h ∈ K, h.at'.toNat + max 1 h.old.length ≤ n) (i : Nat) (hi : n ≤ i) : vi K i = [] ∧ vd K i = none := by
  constructor
  · have := vi_app K [] i (fun o ho => by have := hn o ho; have := h0 o ho; omega)
    rw [List.append_nil] at this
    exact this
  · have := vd_app K [] i (fun o ho => by
      have e1 : (en o : Int) = o.at' + o.old.length := rfl
      have := hn o ho; have := h0 o ho; omega)
    rw [List.append_nil] at this
    exact this

theorem gp_pos {K : List H} : ∀ {prev : Int}, Gp prev K → 0 ≤ prev + 1 → ∀ h ∈ K, 0 ≤ h.at' := fun g hp h hh => by have := g.far h hh; omega
theorem pls_nt {p q : List H} (hp : Ch (-1) p) (hq : Ch (-1) q) : Dif.pof (pls (iv 0 p) q 0 (nt (nt 0 (iv 0 p)) q)) = cm p q := by
  obtain ⟨N, h1, h2, h3⟩ : ∃ N : Nat, nt (nt 0 (iv 0 p)) q ≤ N ∧ lastE (-1) (iv 0 p) < N ∧ lastE (-1) q < N :=
    ⟨nt (nt 0 (iv 0 p)) q + (lastE (-1) (iv 0 p)).toNat + (lastE (-1) q).toNat + 1, by omega, by omega, by omega⟩
  rw [← pls_cm hp hq N h2 h3]
  have a1 := nt_ge (iv 0 p) 0
  have a2 := nt_ge q (nt 0 (iv 0 p))
  refine pls_short _ _ _ _ h1 (fun i hi' => ?_)
  obtain ⟨b1, b2⟩ := v_far (iv 0 p) (gp_pos (show Gp (-1) (iv 0 p) from (ch_gp hp).iv 0) (by omega)) _ a1.2 i (by omega)
  obtain ⟨b3, b4⟩ := v_far q (ch_pos hq) _ a2.2 i hi'
  exact ⟨b1, b2, b3, b4⟩
end Go.Proofs.Ytbgnckbgpiajjaa.Tp
namespace Go.Proofs.Ytbgnckbgpiajjaa.Tp
open Go.RowKit

def chd (c : H) : Prop := 0 < c.old.length + c.new.length
instance (c : H) : Decidable (chd c) := by unfold chd; infer_instance
/-- z: where the steps stand; hs: the hunks that are pushed; c: the open one -/
structure Zs (z : Dif.St ByteArray) (hs : List H) (c : H) : Prop where
  hs' : z.hs = hs ++ (if chd c then [c] else [])
  at' : (z.at' : Int) = en c
  op : z.open' = decide (chd c)
theorem Zs.start : Zs ⟨[], 0, false⟩ [] ⟨0, [], []⟩ := ⟨rfl, rfl, rfl⟩
theorem Zs.base {z : Dif.St ByteArray} {hs : List H} {c : H} (h : Zs z hs c) {x : Nat × ByteArray} (hx : x.1 ≠ 0) (s : List (Nat × ByteArray)) : ∃ k : Nat, (k : Int) = en c ∧ (x :: s).foldl Dif.pst z = (x :: s).foldl Dif.pst ⟨hs ++ [c], k, true⟩ := by
  obtain ⟨a, k, o⟩ := z
  obtain ⟨h1, h2, h3⟩ := h
  dsimp only at h1 h2 h3
  refine ⟨k, h2, ?_⟩
  by_cases e : chd c
  · rw [if_pos e] at h1
    rw [h1, h3, decide_eq_true e]
  · rw [if_neg e, List.append_nil] at h1
    rw [h1, h3, decide_eq_false e, pst_open hs k x s hx]
    obtain ⟨ca, co, cn⟩ := c
    unfold chd at e
    dsimp only at e
    have e1 : co = [] := List.length_eq_zero_iff.1 (by omega)
    have e2 : cn = [] := List.length_eq_zero_iff.1 (by omega)
    subst e1 e2
    unfold en at h2
    simp only [List.length_nil] at h2
    rw [show (k : Int) = ca by omega]
theorem Zs.dels {z : Dif.St ByteArray} {hs : List H} {c : H} (h : Zs z hs c) (l : List ByteArray) : Zs ((ds l).foldl Dif.pst z) hs { c with old := c.old ++ l } := by
  cases l with
  | nil => rw [List.append_nil]; exact h
  | cons x l =>
    obtain ⟨k, hk, e⟩ := h.base (x := (1, x)) (by simp) (ds l)
    have e' : (ds (x :: l)).foldl Dif.pst z = (ds (x :: l)).foldl Dif.pst ⟨hs ++ [c], k, true⟩ := e
    rw [e', pst_dels (x :: l) hs c.at' c.old c.new k]
    have hc : chd ({ c with old := c.old ++ x :: l } : H) := by unfold chd; simp only [List.length_append, List.length_cons]; omega
    refine ⟨by rw [if_pos hc], ?_, (decide_eq_true hc).symm⟩
    unfold en at hk ⊢
    simp only [List.length_append]
    omega
theorem Zs.inss {z : Dif.St ByteArray} {hs : List H} {c : H} (h : Zs z hs c) (l : List ByteArray) : Zs ((is l).foldl Dif.pst z) hs { c with new := c.new ++ l } := by
  cases l with
  | nil => rw [List.append_nil]; exact h
  | cons x l =>
    obtain ⟨k, hk, e⟩ := h.base (x := (2, x)) (by simp) (is l)
    have e' : (is (x :: l)).foldl Dif.pst z = (is (x :: l)).foldl Dif.pst ⟨hs ++ [c], k, true⟩ := e
    rw [e', pst_inss (x :: l) hs c.at' c.old c.new k]
    have hc : chd ({ c with new := c.new ++ x :: l } : H) := by unfold chd; simp only [List.length_append, List.length_cons]; omega
    exact ⟨by rw [if_pos hc], hk, (decide_eq_true hc).symm⟩
theorem Zs.keep {z : Dif.St ByteArray} {hs : List H} {c : H} (h : Zs z hs c) (y : ByteArray) : Zs (Dif.pst z (0, y)) (hs ++ (if chd c then [c] else [])) ⟨en c + 1, [], []⟩ := by
  have e : Dif.pst z (0, y) = ⟨z.hs, z.at' + 1, false⟩ := rfl
  have hc : ¬ chd (⟨en c + 1, [], []⟩ : H) := by unfold chd; simp
  rw [e]
  refine ⟨by rw [if_neg hc, List.append_nil]; exact h.hs', ?_, (decide_eq_false hc).symm⟩
  have := h.at'
  show ((z.at' + 1 : Nat) : Int) = en c + 1 + (([] : List ByteArray).length : Int)
  simp only [List.length_nil]
  omega
/-- the end: the open hunk is pushed -/
theorem Zs.done {s : List (Nat × ByteArray)} {hs : List H} {c : H} (h : Zs (s.foldl Dif.pst ⟨[], 0, false⟩) hs c) : Dif.pof s = hs ++ (if chd c then [c] else []) := h.hs'
end Go.Proofs.Ytbgnckbgpiajjaa.Tp
