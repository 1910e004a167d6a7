/-
  Plain mathematics of exchanged and of moved patches (no program here).
-/
import Derived.Test.YtolpbeemeignaaaTpE
import Derived.Test.YtolpbeemeignaaaTpN
namespace Go.Proofs.Ytolpbeemeignaaa.Tp
open Go.RowKit
set_option maxRecDepth 4000

/-- a change: its range, and by how many lines the text grows -/
structure Cg where
  fr : Int
  to : Int
  gr : Int
def chg (h : H) : Cg := ⟨h.at', en h, (h.new.length : Int) - h.old.length⟩
def cg (hs : List H) : List Cg := hs.map chg
def t1 (h : H) (c : Cg) : Bool := decide (h.at' ≤ c.to) && decide (c.fr ≤ en h)
def tch (qs : List H) (cs : List Cg) : Bool := qs.any fun h => cs.any (t1 h)
def gb (a : Int) : List Cg → Int
  | [] => 0
  | c :: r => (if c.to < a then c.gr else 0) + gb a r
def bh (hs : List H) (cs : List Cg) : List H := hs.map fun h => ⟨h.at' + gb h.at' cs, h.old, h.new⟩
def mv (n : Int) (cs : List Cg) (hs : List H) : List H := hs.map fun h => ⟨h.at' + n + gb h.at' cs, h.old, h.new⟩
theorem bh_mv (hs : List H) (cs : List Cg) : bh hs cs = mv 0 cs hs := by simp [bh, mv]
/-- gaps between the hunks -/
def Gp : Int → List H → Prop
  | _, [] => True
  | prev, h :: r => prev < h.at' ∧ Gp (en h) r
/-- x touches none of O -/
def Aw (x : H) (O : List H) : Prop := ∀ o ∈ O, en o < x.at' ∨ en x < o.at'
theorem en_ge (h : H) : h.at' ≤ en h := by unfold en; omega
theorem ch_gp {hs : List H} : ∀ {prev : Int}, Ch prev hs → Gp prev hs := by
  induction hs with
  | nil => intro _ _; trivial
  | cons h r ih => intro prev k; exact ⟨k.1.gap, ih k.2⟩
theorem Gp.iv {hs : List H} : ∀ {prev : Int} (n : Int), Gp prev hs → Gp (prev + n) (iv n hs) := by
  induction hs with
  | nil => intro _ _ _; trivial
  | cons h r ih =>
    intro prev n k
    refine ⟨by have := k.1; dsimp only; omega, ?_⟩
    have := ih (n + h.new.length - h.old.length) k.2
    have e : en (⟨h.at' + n, h.new, h.old⟩ : H) = en h + (n + h.new.length - h.old.length) := by unfold en; dsimp only; omega
    rw [e]; exact this
theorem Gp.far {hs : List H} : ∀ {prev : Int}, Gp prev hs → ∀ o ∈ hs, prev < o.at' := by
  induction hs with
  | nil => intro _ _ o ho; cases ho
  | cons h r ih =>
    intro prev k o ho
    rcases List.mem_cons.1 ho with rfl | ho
    · exact k.1
    · have := ih k.2 o ho
      have := en_ge h
      have := k.1
      omega
theorem Gp.up {hs : List H} {prev p' : Int} (k : Gp prev hs) (h : ∀ o ∈ hs, p' < o.at') : Gp p' hs := by
  cases hs with
  | nil => trivial
  | cons x r => exact ⟨h x (List.mem_cons_self ..), k.2⟩
theorem t1_iff (x o : H) : t1 x (chg o) = true ↔ x.at' ≤ en o ∧ o.at' ≤ en x := by
  unfold t1 chg
  rw [Bool.and_eq_true, decide_eq_true_iff, decide_eq_true_iff]
theorem tch_false {X O : List H} : tch X (cg O) = false ↔ ∀ x ∈ X, Aw x O := by
  unfold tch cg Aw
  rw [List.any_eq_false]
  constructor
  · intro h x hx o ho
    have := h x hx
    rw [Bool.not_eq_true, List.any_eq_false] at this
    have := this (chg o) (List.mem_map_of_mem ho)
    rw [t1_iff] at this
    omega
  · intro h x hx
    rw [Bool.not_eq_true, List.any_eq_false]
    intro c hc
    obtain ⟨o, ho, rfl⟩ := List.mem_map.1 hc
    have := h x hx o ho
    rw [t1_iff]
    omega
theorem aw_symm {X O : List H} (h : ∀ x ∈ X, Aw x O) : ∀ o ∈ O, Aw o X := fun o ho x hx => (h x hx o ho).symm
theorem tch_symm (X O : List H) : tch X (cg O) = tch O (cg X) := by
  cases h : tch X (cg O) with
  | false => exact (tch_false.2 (aw_symm (tch_false.1 h))).symm
  | true =>
    cases k : tch O (cg X) with
    | true => rfl
    | false => rw [tch_false.2 (aw_symm (tch_false.1 k))] at h; cases h
theorem gb_zero {a : Int} {O : List H} (h : ∀ o ∈ O, a ≤ o.at') : gb a (cg O) = 0 := by
  induction O with
  | nil => rfl
  | cons o r ih =>
    have h1 := h o (List.mem_cons_self ..)
    have h2 := en_ge o
    have := ih (fun x hx => h x (List.mem_cons_of_mem _ hx))
    show (if en o < a then _ else (0 : Int)) + gb a (cg r) = 0
    rw [if_neg (by omega), this]; rfl
theorem gb_cons (a : Int) (o : H) (r : List H) : gb a (cg (o :: r)) = (if en o < a then (o.new.length : Int) - o.old.length else 0) + gb a (cg r) := rfl
/-- behind a hunk that is behind x, all are -/
theorem far_all {x o : H} {r : List H} (hr : Gp (en o) r) (h : en x < o.at') : ∀ y ∈ o :: r, en x < y.at' := by
  intro y hy
  rcases List.mem_cons.1 hy with rfl | hy
  · exact h
  · have := hr.far y hy
    have := en_ge o
    omega
theorem gb_far {x : H} {O : List H} (h : ∀ y ∈ O, en x < y.at') : gb x.at' (cg O) = 0 :=
  gb_zero fun o ho => by have := h o ho; have := en_ge x; omega
/-- what comes behind prev, stays there -/
theorem gb_low (x : H) (O : List H) : ∀ (prev : Int), Gp prev O → prev < x.at' → Aw x O → prev < x.at' + gb x.at' (cg O) := by
  induction O with
  | nil => intro prev _ h _; simp only [cg, List.map_nil, gb]; omega
  | cons o r ih =>
    intro prev hg h ha
    rcases ha o (List.mem_cons_self ..) with k | k
    · have := ih (en o) hg.2 k (fun y hy => ha y (List.mem_cons_of_mem _ hy))
      have h1 := hg.1
      have h2 : en o = o.at' + o.old.length := rfl
      rw [gb_cons, if_pos k]; omega
    · rw [gb_far (far_all hg.2 k)]; omega
/-- moved over O and then over what undoes O -/
theorem gb_back (x : H) (O : List H) : ∀ (prev n : Int), Gp prev O → Aw x O →
    gb (x.at' + n + gb x.at' (cg O)) (cg (iv n O)) = - gb x.at' (cg O) ∧ Aw ⟨x.at' + n + gb x.at' (cg O), x.old, x.new⟩ (iv n O) := by
  induction O with
  | nil => intro prev n _ _; exact ⟨rfl, fun o ho => by cases ho⟩
  | cons o r ih =>
    intro prev n hg ha
    rcases ha o (List.mem_cons_self ..) with k | k
    · have ha' : Aw x r := fun y hy => ha y (List.mem_cons_of_mem _ hy)
      have lo := gb_low x r (en o) hg.2 k ha'
      obtain ⟨i1, i2⟩ := ih (en o) (n + o.new.length - o.old.length) hg.2 ha'
      have h2 : en o = o.at' + o.old.length := rfl
      have e : x.at' + n + gb x.at' (cg (o :: r)) = x.at' + (n + o.new.length - o.old.length) + gb x.at' (cg r) := by rw [gb_cons, if_pos k]; omega
      have e2 : gb x.at' (cg (o :: r)) = ((o.new.length : Int) - o.old.length) + gb x.at' (cg r) := by rw [gb_cons, if_pos k]
      have e3 : en (⟨o.at' + n, o.new, o.old⟩ : H) = o.at' + n + o.new.length := rfl
      rw [e, e2]
      refine ⟨?_, ?_⟩
      · show gb _ (cg (⟨o.at' + n, o.new, o.old⟩ :: iv (n + o.new.length - o.old.length) r)) = _
        rw [gb_cons, if_pos (by rw [e3]; omega), i1]
        dsimp only; omega
      · intro y hy
        rcases List.mem_cons.1 (show y ∈ (⟨o.at' + n, o.new, o.old⟩ : H) :: iv (n + o.new.length - o.old.length) r from hy) with rfl | hy
        · left; rw [e3]; dsimp only; omega
        · exact i2 y hy
    · have fa := far_all hg.2 k
      have z := gb_far fa
      have gi : Gp (en x + n) (iv n (o :: r)) := Gp.iv n (Gp.up hg fa)
      rw [z]
      refine ⟨?_, fun y hy => ?_⟩
      · rw [gb_zero (fun y hy => by have := gi.far y hy; have := en_ge x; omega)]; rfl
      · right
        have := gi.far y hy
        have e : en (⟨x.at' + n + 0, x.old, x.new⟩ : H) = en x + n := by unfold en; dsimp only; omega
        rw [e]; exact this
/-- Lemma A: over O and over what undoes O: nothing has changed -/
theorem bh_back {X O : List H} {prev : Int} (hg : Gp prev O) (h : ∀ x ∈ X, Aw x O) : bh (bh X (cg O)) (cg (iv 0 O)) = X ∧ ∀ y ∈ bh X (cg O), Aw y (iv 0 O) := by
  constructor
  · unfold bh
    rw [List.map_map]
    conv => rhs; rw [← List.map_id X]
    refine List.map_congr_left fun x hx => ?_
    have := (gb_back x O prev 0 hg (h x hx)).1
    rw [Int.add_zero] at this
    simp only [Function.comp, id]
    cases x
    simp only [Dif.Hk.mk.injEq, and_true]
    dsimp only at this ⊢
    rw [this]; omega
  · intro y hy
    obtain ⟨x, hx, rfl⟩ := List.mem_map.1 hy
    have := (gb_back x O prev 0 hg (h x hx)).2
    rwa [Int.add_zero] at this

theorem gr_mv (n : Int) (cs : List Cg) (hs : List H) : gr (mv n cs hs) = gr hs := by
  induction hs with
  | nil => rfl
  | cons h r ih => show ((h.new.length : Int) - h.old.length) + gr (mv n cs r) = _; rw [ih]; rfl
theorem gr_bh (cs : List Cg) (hs : List H) : gr (bh hs cs) = gr hs := by rw [bh_mv, gr_mv]
theorem gb_iff {a b : Int} {f : H → H} (O : List H) (hf : ∀ o ∈ O, (en (f o) < a ↔ en o < b) ∧ (f o).new = o.new ∧ (f o).old = o.old) : gb a (cg (O.map f)) = gb b (cg O) := by
  induction O with
  | nil => rfl
  | cons o r ih =>
    obtain ⟨h1, h2, h3⟩ := hf o (List.mem_cons_self ..)
    rw [List.map_cons, gb_cons, gb_cons, ih (fun x hx => hf x (List.mem_cons_of_mem _ hx)), h2, h3]
    by_cases k : en o < b
    · rw [if_pos k, if_pos (h1.2 k)]
    · rw [if_neg k, if_neg (fun e => k (h1.1 e))]
/-- how o lies to the k-th hunk of X, before and behind X -/
theorem gb_cross (o : H) (X : List H) : ∀ (prev n : Int), Gp prev X → Aw o X → ∀ k (hk : k < X.length), (en o + n + gb o.at' (cg X) < X[k].at' + n + gr (X.take k) ↔ en o < X[k].at') := by
  induction X with
  | nil => intro _ _ _ _ k hk; simp at hk
  | cons x r ih =>
    intro prev n hg ha k hk
    have ha' : Aw o r := fun y hy => ha y (List.mem_cons_of_mem _ hy)
    have eo := en_ge o
    have ex : en x = x.at' + x.old.length := rfl
    rcases ha x (List.mem_cons_self ..) with h | h
    · have lo := gb_low o r (en x) hg.2 h ha'
      rw [gb_cons, if_pos h]
      cases k with
      | zero =>
        simp only [List.getElem_cons_zero, List.take_zero, gr]
        omega
      | succ k =>
        have := ih (en x) n hg.2 ha' k (by simpa using hk)
        simp only [List.getElem_cons_succ, List.take_succ_cons, gr]
        omega
    · have fa := far_all hg.2 h
      have z := gb_far fa
      have gi : Gp (en o + n) (iv n (x :: r)) := Gp.iv n (Gp.up hg fa)
      have hk' : k < (iv n (x :: r)).length := by rw [iv_len]; exact hk
      have g1 := gi.far _ (List.getElem_mem hk')
      rw [iv_get (x :: r) n k hk hk'] at g1
      have g2 := fa _ (List.getElem_mem hk)
      dsimp only at g1
      rw [z]
      constructor
      · intro _; exact g2
      · intro _; omega
/-- Lemma B: what undoes X, behind what was moved over X, is what undoes the moved X -/
theorem bh_iv {X O : List H} {prev : Int} (hg : Gp prev X) (h : ∀ o ∈ O, Aw o X) : bh (iv 0 X) (cg (bh O (cg X))) = iv 0 (bh X (cg O)) := by
  have lb : ∀ (hs : List H) cs, (bh hs cs).length = hs.length := fun hs cs => List.length_map ..
  refine List.ext_getElem (by rw [lb, iv_len, iv_len, lb]) fun k h1 h2 => ?_
  have hk : k < X.length := by rw [lb, iv_len] at h1; exact h1
  have hkb : k < (bh X (cg O)).length := by rw [lb]; exact hk
  have hki : k < (iv 0 X).length := by rw [iv_len]; exact hk
  rw [iv_get (bh X (cg O)) 0 k hkb h2]
  have e1 : (bh (iv 0 X) (cg (bh O (cg X))))[k] = ⟨(iv 0 X)[k].at' + gb (iv 0 X)[k].at' (cg (bh O (cg X))), (iv 0 X)[k].old, (iv 0 X)[k].new⟩ := by simp [bh]
  have e2 : (bh X (cg O))[k] = ⟨X[k].at' + gb X[k].at' (cg O), X[k].old, X[k].new⟩ := by simp [bh]
  have e3 : (bh X (cg O)).take k = bh (X.take k) (cg O) := by unfold bh; rw [List.map_take]
  rw [e1, e2, e3, gr_bh, iv_get X 0 k hk hki]
  dsimp only
  have : gb (X[k].at' + 0 + gr (X.take k)) (cg (bh O (cg X))) = gb X[k].at' (cg O) := by
    unfold bh
    refine gb_iff O fun o ho => ⟨?_, rfl, rfl⟩
    have := gb_cross o X prev 0 hg (h o ho) k hk
    have e : en (⟨o.at' + gb o.at' (cg X), o.old, o.new⟩ : H) = en o + 0 + gb o.at' (cg X) := by unfold en; dsimp only; omega
    rw [e]; exact this
  rw [this]
  congr 1
  omega

/-! texts -/
theorem mid_dd (l : List ByteArray) (k i j : Nat) : mid (l.drop k) i j = mid l (k + i) (k + j) := by
  unfold mid; rw [List.drop_drop]; congr 1; omega
theorem mid_left (l m : List ByteArray) (i j : Nat) (h : j ≤ l.length) : mid (l ++ m) i j = mid l i j := by
  unfold mid
  by_cases hi : i ≤ l.length
  · rw [List.drop_append_of_le_length hi, List.take_append_of_le_length (by rw [List.length_drop]; omega)]
  · rw [show j - i = 0 by omega, List.take_zero, List.take_zero]
theorem mid_mid (t : List ByteArray) (k b i j : Nat) (h : j ≤ b - k) : mid (mid t k b) i j = mid t (k + i) (k + j) := by
  unfold mid
  rw [List.drop_take, List.take_take, List.drop_drop]
  congr 1
  omega
theorem has_at {s : List ByteArray} {x : H} {z : Int} {m : Nat} (hz : z = m) (hm : m + x.old.length ≤ s.length) (h : mid s m (m + x.old.length) = x.old) : Has s ⟨z, x.old, x.new⟩ := by
  subst hz
  refine ⟨by dsimp only; omega, by unfold en; dsimp only; omega, ?_⟩
  have e : (en (⟨(m : Int), x.old, x.new⟩ : H)).toNat = m + x.old.length := by unfold en; dsimp only; omega
  rw [e]
  simpa using h
theorem ap_skip (t : List ByteArray) (O : List H) (k e : Nat) (h1 : k ≤ e) (_h2 : e ≤ t.length) (h : ∀ o ∈ O, (e : Int) ≤ o.at') : ap t k O = mid t k e ++ ap t e O := by
  cases O with
  | nil => rw [ap, ap, mid_drop t k e h1]
  | cons o r =>
    have := h o (List.mem_cons_self ..)
    rw [ap, ap, ← mid_join t k e o.at'.toNat h1 (by omega)]
    simp [List.append_assoc]
/-- Lemma C1: a hunk that fits, moved over O, fits behind O -/
theorem fit_mv (t : List ByteArray) (x : H) (hx : Has t x) (O : List H) : ∀ (prev : Int) (k : Nat) (pre : List ByteArray) (n : Int), Gp prev O → (∀ o ∈ O, Has t o) → Aw x O → ((k : Int) ≤ prev + 1) → n = (pre.length : Int) - k → (k : Int) ≤ x.at' →
    Has (pre ++ ap t k O) ⟨x.at' + n + gb x.at' (cg O), x.old, x.new⟩ := by
  have h0 := hx.lo
  have h1 := hx.hi
  have h2 := hx.eq
  obtain ⟨a, ha⟩ : ∃ a : Nat, x.at' = a := ⟨x.at'.toNat, by omega⟩
  have hen : en x = ((a + x.old.length : Nat) : Int) := by unfold en; omega
  rw [hen, ha, Int.toNat_natCast, Int.toNat_natCast] at h2
  induction O with
  | nil =>
    intro prev k pre n _ _ _ hk hn hkx
    refine has_at (m := pre.length + (a - k)) (by simp only [cg, List.map_nil, gb]; omega) (by rw [ap, List.length_append, List.length_drop]; omega) ?_
    rw [ap, Nat.add_assoc, mid_pre, mid_dd]
    rw [show k + (a - k) = a by omega, show k + (a - k + x.old.length) = a + x.old.length by omega, h2]
  | cons o r ih =>
    intro prev k pre n hg hf haw hk hn hkx
    have ho := hf o (List.mem_cons_self ..)
    have o0 := ho.lo
    have o1 := ho.hi
    have eo : en o = o.at' + o.old.length := rfl
    have g1 := hg.1
    have lm : (mid t k o.at'.toNat).length = o.at'.toNat - k := mid_size t k _ (by omega)
    rcases haw o (List.mem_cons_self ..) with c | c
    · have lp : ((pre ++ mid t k o.at'.toNat ++ o.new).length : Int) = pre.length + (o.at' - k) + o.new.length := by
        rw [List.length_append, List.length_append, lm]; omega
      have := ih (en o) (en o).toNat (pre ++ mid t k o.at'.toNat ++ o.new) (n + (o.new.length - o.old.length)) hg.2 (fun y hy => hf y (List.mem_cons_of_mem _ hy)) (fun y hy => haw y (List.mem_cons_of_mem _ hy)) (by omega) (by rw [lp]; omega) (by omega)
      rw [gb_cons, if_pos c]
      have e : x.at' + n + ((o.new.length : Int) - o.old.length + gb x.at' (cg r)) = x.at' + (n + (o.new.length - o.old.length)) + gb x.at' (cg r) := by omega
      rw [e, ap]
      simpa [List.append_assoc] using this
    · rw [gb_far (far_all hg.2 c)]
      refine has_at (m := pre.length + (a - k)) (by omega) (by rw [ap, List.length_append, List.length_append, List.length_append, lm]; omega) ?_
      rw [ap, Nat.add_assoc, mid_pre, List.append_assoc, mid_left _ _ _ _ (by rw [lm]; omega), mid_mid _ _ _ _ _ (by omega)]
      rw [show k + (a - k) = a by omega, show k + (a - k + x.old.length) = a + x.old.length by omega, h2]
/-- .. whole -/
theorem fit_bh {t : List ByteArray} {X O : List H} (hO : Gp (-1) O) (fX : ∀ x ∈ X, Has t x) (fO : ∀ o ∈ O, Has t o) (h : ∀ x ∈ X, Aw x O) : ∀ y ∈ bh X (cg O), Has (ap t 0 O) y := by
  intro y hy
  obtain ⟨x, hx, rfl⟩ := List.mem_map.1 hy
  have := fit_mv t x (fX x hx) O (-1) 0 [] 0 hO fO (h x hx) (by omega) (by simp) (by have := (fX x hx).lo; omega)
  simpa using this

/-- both ways round, side by side -/
def Sq (t : List ByteArray) (O X : List H) : Prop := ∀ (prev : Int) (k : Nat) (pl pr : List ByteArray) (nl nr : Int), Gp prev O → Gp prev X → (∀ o ∈ O, Aw o X) → (∀ o ∈ O, Has t o) → (∀ x ∈ X, Has t x) → ((k : Int) ≤ prev + 1) → k ≤ t.length →
  nl = (pl.length : Int) - k → nr = (pr.length : Int) - k → ap (pl ++ ap t k O) pl.length (mv nl (cg O) X) = ap (pr ++ ap t k X) pr.length (mv nr (cg X) O)
theorem Sq.symm {t : List ByteArray} {O X : List H} (h : Sq t O X) : Sq t X O := fun prev k pl pr nl nr g1 g2 aw f1 f2 hk ht e1 e2 =>
  (h prev k pr pl nr nl g2 g1 (aw_symm aw) f2 f1 hk ht e2 e1).symm
theorem mv_cons {O : List H} {x : H} {r : List H} {n : Int} (h : ∀ o ∈ O, en x < o.at') : mv n (cg (x :: r)) O = mv (n + (x.new.length - x.old.length)) (cg r) O := by
  unfold mv
  refine List.map_congr_left fun o ho => ?_
  rw [gb_cons, if_pos (h o ho)]
  congr 1
  omega
theorem sq_step {t : List ByteArray} {O X : List H} {x : H} (hfar : ∀ o ∈ O, en x < o.at') (ih : Sq t O X) : Sq t O (x :: X) := by
  intro prev k pl pr nl nr gO gX aw fO fX hk ht e1 e2
  have hx := fX x (List.mem_cons_self ..)
  have x0 := hx.lo
  have x1 := hx.hi
  obtain ⟨b, hb⟩ : ∃ b : Nat, x.at' = b := ⟨x.at'.toNat, by omega⟩
  obtain ⟨e, he⟩ : ∃ e : Nat, en x = e := ⟨(en x).toNat, by unfold en; omega⟩
  have ee : en x = x.at' + x.old.length := rfl
  have g1 := gX.1
  have hkb : k ≤ b := by omega
  have hbe : e = b + x.old.length := by omega
  have z := gb_far hfar
  have lmb : (mid t k b).length = b - k := mid_size t k b (by omega)
  have lme : (mid t k e).length = e - k := mid_size t k e (by omega)
  have awX : ∀ o ∈ O, Aw o X := fun o ho y hy => aw o ho y (List.mem_cons_of_mem _ hy)
  -- the left side
  have L : ap (pl ++ ap t k O) pl.length (mv nl (cg O) (x :: X)) = mid t k b ++ x.new ++ ap ((pl ++ mid t k e) ++ ap t e O) (pl ++ mid t k e).length (mv nl (cg O) X) := by
    show ap _ _ (⟨x.at' + nl + gb x.at' (cg O), x.old, x.new⟩ :: mv nl (cg O) X) = _
    rw [ap, z]
    have a1 : (x.at' + nl + 0).toNat = pl.length + (b - k) := by omega
    have a2 : (en (⟨x.at' + nl + 0, x.old, x.new⟩ : H)).toNat = (pl ++ mid t k e).length := by unfold en; dsimp only; rw [List.length_append, lme]; omega
    dsimp only
    rw [a1, a2, mid_pre0]
    have s1 : (ap t k O).take (b - k) = mid t k b := by
      rw [ap_skip t O k b hkb (by omega) (fun o ho => by have := hfar o ho; omega), ← lmb, List.take_left']
      rfl
    have s2 : pl ++ ap t k O = (pl ++ mid t k e) ++ ap t e O := by
      rw [ap_skip t O k e (by omega) (by omega) (fun o ho => by have := hfar o ho; omega), List.append_assoc]
    rw [s1, s2]
  have R : ap (pr ++ ap t k (x :: X)) pr.length (mv nr (cg (x :: X)) O) = mid t k b ++ x.new ++ ap ((pr ++ mid t k b ++ x.new) ++ ap t e X) (pr ++ mid t k b ++ x.new).length (mv (nr + (x.new.length - x.old.length)) (cg X) O) := by
    have lp : ((pr ++ mid t k b ++ x.new).length : Int) = pr.length + (b - k) + x.new.length := by rw [List.length_append, List.length_append, lmb]; omega
    have s1 : pr ++ ap t k (x :: X) = (pr ++ mid t k b ++ x.new) ++ ap t e X := by rw [ap, hb, he, Int.toNat_natCast, Int.toNat_natCast]; simp [List.append_assoc]
    rw [mv_cons hfar, s1]
    rw [ap_skip _ (mv (nr + (x.new.length - x.old.length)) (cg X) O) pr.length (pr ++ mid t k b ++ x.new).length (by rw [List.length_append, List.length_append]; omega) (by rw [@List.length_append _ (pr ++ mid t k b ++ x.new) _]; omega) ?_]
    · congr 1
      have : (pr ++ mid t k b ++ x.new).length = pr.length + (mid t k b ++ x.new).length := by rw [List.length_append, List.length_append, List.length_append]; omega
      rw [this, List.append_assoc pr, List.append_assoc pr, mid_pre0, List.take_left']
      rfl
    · intro y hy
      obtain ⟨o, ho, rfl⟩ := List.mem_map.1 hy
      have := gb_low o X (en x) gX.2 (hfar o ho) (awX o ho)
      dsimp only
      omega
  rw [L, R]
  congr 1
  refine ih (en x) e (pl ++ mid t k e) (pr ++ mid t k b ++ x.new) nl (nr + (x.new.length - x.old.length)) (Gp.up gO hfar) gX.2 awX fO (fun y hy => fX y (List.mem_cons_of_mem _ hy)) (by omega) (by omega) ?_ ?_
  · rw [List.length_append, lme]; omega
  · rw [List.length_append, List.length_append, lmb]; omega
theorem sq_all (t : List ByteArray) : ∀ (m : Nat) (O X : List H), O.length + X.length = m → (∃ p, Gp p O) → (∃ p, Gp p X) → (∀ o ∈ O, Aw o X) → Sq t O X := by
  intro m
  induction m with
  | zero =>
    intro O X h _ _ _
    have h1 : O = [] := List.length_eq_zero_iff.1 (by omega)
    have h2 : X = [] := List.length_eq_zero_iff.1 (by omega)
    subst h1 h2
    intro prev k pl pr nl nr _ _ _ _ _ _ _ _ _
    simp [mv, ap]
  | succ m ih =>
    intro O X h ⟨p, gO⟩ ⟨p', gX⟩ aw
    cases X with
    | nil =>
      cases O with
      | nil => simp at h
      | cons o r => exact (sq_step (fun x hx => by cases hx) (ih r [] (by simpa using h) ⟨_, gO.2⟩ ⟨0, trivial⟩ (fun _ _ y hy => by cases hy)).symm).symm
    | cons x X =>
      cases O with
      | nil => exact sq_step (fun o ho => by cases ho) (ih [] X (by simpa using h) ⟨0, trivial⟩ ⟨_, gX.2⟩ (fun _ ho => by cases ho))
      | cons o r =>
        rcases aw o (List.mem_cons_self ..) x (List.mem_cons_self ..) with c | c
        · exact sq_step (far_all gO.2 c) (ih (o :: r) X (by simp at h ⊢; omega) ⟨_, gO⟩ ⟨_, gX.2⟩ (fun y hy z hz => aw y hy z (List.mem_cons_of_mem _ hz)))
        · exact (sq_step (far_all gX.2 c) (ih r (x :: X) (by simp at h ⊢; omega) ⟨_, gO.2⟩ ⟨_, gX⟩ (fun y hy => aw y (List.mem_cons_of_mem _ hy))).symm).symm
/-- Lemma C2: both ways lead to the same text -/
theorem ap_bh {t : List ByteArray} {O X : List H} (gO : Gp (-1) O) (gX : Gp (-1) X) (aw : ∀ o ∈ O, Aw o X) (fO : ∀ o ∈ O, Has t o) (fX : ∀ x ∈ X, Has t x) :
    ap (ap t 0 O) 0 (bh X (cg O)) = ap (ap t 0 X) 0 (bh O (cg X)) := by
  have := sq_all t _ O X rfl ⟨_, gO⟩ ⟨_, gX⟩ aw (-1) 0 [] [] 0 0 gO gX aw fO fX (by omega) (Nat.zero_le _) (by simp) (by simp)
  rw [bh_mv, bh_mv]
  simpa using this

/-! exchanged patches -/
/-- q, moved before p -/
def xa (p q : List H) : List H := bh q (cg (iv 0 p))
/-- p, moved behind it -/
def xb (p q : List H) : List H := bh p (cg (xa p q))
theorem iv_iv0 (p : List H) : iv 0 (iv 0 p) = p := iv_iv p 0 0 rfl
structure Ex (p q : List H) : Prop where
  vp : Vp p
  vq : Vp q
  nt : tch q (cg (iv 0 p)) = false
theorem Ex.gp {p q : List H} (h : Ex p q) : Gp (-1) p := ch_gp h.vp.ch
theorem Ex.gq {p q : List H} (h : Ex p q) : Gp (-1) q := ch_gp h.vq.ch
theorem Ex.back {p q : List H} (h : Ex p q) : bh (xa p q) (cg p) = q ∧ ∀ y ∈ xa p q, Aw y p := by
  have := bh_back (h.gp.iv 0) (tch_false.1 h.nt)
  rwa [iv_iv0] at this
/-- exchanged twice -/
theorem Ex.twice {p q : List H} (h : Ex p q) (va : Vp (xa p q)) (vb : Vp (xb p q)) : Ex (xa p q) (xb p q) ∧ xa (xa p q) (xb p q) = p ∧ xb (xa p q) (xb p q) = q := by
  obtain ⟨k1, k2⟩ := h.back
  obtain ⟨k3, k4⟩ := bh_back (ch_gp va.ch) (aw_symm k2)
  have e : xa (xa p q) (xb p q) = p := k3
  refine ⟨⟨va, vb, tch_false.2 k4⟩, e, ?_⟩
  show bh (xa p q) (cg (xa (xa p q) (xb p q))) = q
  rw [e, k1]
/-- what undoes them, exchanged -/
theorem Ex.inverse {p q : List H} (h : Ex p q) (vp : Vp (iv 0 p)) (vq : Vp (iv 0 q)) (va : Vp (xa p q)) (_vb : Vp (xb p q)) :
    Ex (iv 0 q) (iv 0 p) ∧ xa (iv 0 q) (iv 0 p) = iv 0 (xb p q) ∧ xb (iv 0 q) (iv 0 p) = iv 0 (xa p q) := by
  obtain ⟨k1, k2⟩ := h.back
  have e1 : xa (iv 0 q) (iv 0 p) = iv 0 (xb p q) := by
    have := bh_iv h.gp k2
    rw [k1] at this
    show bh (iv 0 p) (cg (iv 0 (iv 0 q))) = _
    rw [iv_iv0, this]; rfl
  refine ⟨⟨vq, vp, ?_⟩, e1, ?_⟩
  · rw [iv_iv0, tch_symm]; exact h.nt
  · show bh (iv 0 q) (cg (xa (iv 0 q) (iv 0 p))) = _
    rw [e1]
    have ga : Gp (-1) (xa p q) := ch_gp va.ch
    have b1 := bh_iv ga (aw_symm k2)
    rw [k1] at b1
    obtain ⟨-, b3⟩ := bh_back ga (aw_symm k2)
    have b2 := bh_back (X := iv 0 (xa p q)) (O := xb p q) (prev := -1) (ch_gp _vb.ch) (aw_symm b3)
    have b4 := b2.1
    rw [show bh (iv 0 (xa p q)) (cg (xb p q)) = iv 0 q from b1] at b4
    exact b4
/-- the same effect -/
theorem Ex.effect {p q : List H} {t : List ByteArray} (h : Ex p q) (va : Vp (xa p q)) (okp : Ok p t) (okq : Ok q (ap t 0 p)) :
    (∀ x ∈ xa p q, Has t x) ∧ (∀ x ∈ xb p q, Has (ap t 0 (xa p q)) x) ∧ ap (ap t 0 (xa p q)) 0 (xb p q) = ap (ap t 0 p) 0 q := by
  obtain ⟨k1, k2⟩ := h.back
  obtain ⟨u1, u2⟩ := undo0 okp
  have fa : ∀ x ∈ xa p q, Has t x := by
    have := fit_bh (t := ap t 0 p) (X := q) (O := iv 0 p) (h.gp.iv 0) okq.fit u1 (tch_false.1 h.nt)
    rwa [u2] at this
  have ga : Gp (-1) (xa p q) := ch_gp va.ch
  refine ⟨fa, fit_bh ga okp.fit fa (aw_symm k2), ?_⟩
  have := ap_bh h.gp ga (aw_symm k2) okp.fit fa
  rw [k1] at this
  exact this.symm
end Go.Proofs.Ytolpbeemeignaaa.Tp
