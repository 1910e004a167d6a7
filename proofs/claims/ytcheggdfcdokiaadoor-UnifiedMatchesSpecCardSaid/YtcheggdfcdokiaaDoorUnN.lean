
/-
  Plain mathematics of a unified diff: its groups, from a place on; every group of a patch that applies can be written; the reference's way through a group (no program here).
-/
import Derived.Test.YtcheggdfcdokiaaDoorUnF
namespace Go.Proofs.YtcheggdfcdokiaaDoor
open Go.RowKit
set_option maxRecDepth 4000
set_option maxRecDepth 4000

namespace Tp
/-! groups, from a place on -/
/-- the hunks i .. l, a group -/
def gp (hs : List H) (i l : Nat) : List H := (hs.drop i).take (l + 1 - i)
theorem gp_one (hs : List H) (i : Nat) (h : i < hs.length) : gp hs i i = [hs[i]] := by
  unfold gp; rw [show i + 1 - i = 1 by omega, List.drop_eq_getElem_cons h]; rfl
theorem gp_more (hs : List H) (i l : Nat) (h1 : i ≤ l) (h : l + 1 < hs.length) : gp hs i (l + 1) = gp hs i l ++ [hs[l + 1]] := by
  unfold gp
  rw [show l + 1 + 1 - i = (l + 1 - i) + 1 by omega, List.take_succ_eq_append_getElem (by rw [List.length_drop]; omega), List.getElem_drop]
  congr 3
  omega
theorem gp_cons (hs : List H) (i l : Nat) (h1 : i ≤ l) (h : l < hs.length) : gp hs i l = hs[i] :: (if i = l then [] else gp hs (i + 1) l) := by
  unfold gp
  rw [List.drop_eq_getElem_cons (by omega), show l + 1 - i = (l - i) + 1 by omega, List.take_succ_cons]
  congr 1
  by_cases e : i = l
  · rw [if_pos e, show l - i = 0 by omega, List.take_zero]
  · rw [if_neg e, show l + 1 - (i + 1) = l - i by omega]
theorem gp_len (hs : List H) (i l : Nat) (h1 : i ≤ l) (h : l < hs.length) : (gp hs i l).length = l + 1 - i := by
  unfold gp; rw [List.length_take, List.length_drop]; omega
theorem gp_head (hs : List H) (i l : Nat) (h1 : i ≤ l) (h : l < hs.length) : (gp hs i l).head? = some hs[i] := by rw [gp_cons hs i l h1 h]; rfl
theorem gp_last (hs : List H) (i l : Nat) (h1 : i ≤ l) (h : l < hs.length) : (gp hs i l).getLast? = some hs[l] := by
  have e := gp_len hs i l h1 h
  rw [List.getLast?_eq_getElem?, e, List.getElem?_eq_getElem (by omega)]
  unfold gp
  rw [List.getElem_take, List.getElem_drop]
  congr 2
  omega
theorem gp_take (hs : List H) (i l : Nat) (h1 : i ≤ l) : hs.take i ++ gp hs i l = hs.take (l + 1) := by
  unfold gp
  rw [show l + 1 = i + (l + 1 - i) by omega, List.take_add]
  congr 2
  omega
theorem gp_gr (hs : List H) (i l : Nat) (h1 : i ≤ l) : gr (hs.take i) + gr (gp hs i l) = gr (hs.take (l + 1)) := by
  rw [← gr_app, gp_take hs i l h1]
theorem gfold_pre (c : Int) (l : List H) : ∀ (prev : Option H) (D : List (List H)) (g : List H), gfold c prev (D ++ [g]) l = D ++ gfold c prev [g] l := by
  induction l with
  | nil => intro prev D g; rfl
  | cons h r ih =>
    intro prev D g
    simp only [gfold]
    cases gnew c prev h with
    | true =>
      rw [gadd_new, gadd_new, ih (some h) (D ++ [g]) [h], show [g] ++ [[h]] = [g] ++ [[h]] from rfl, ih (some h) [g] [h], List.append_assoc]
    | false =>
      have e := gadd_old [] g h
      rw [List.nil_append, List.nil_append] at e
      rw [gadd_old, e, ih]
/-- hunks i .. l are close to each other, and what follows is not -/
structure Run (c : Int) (hs : List H) (i l : Nat) : Prop where
  il : i ≤ l
  lt : l < hs.length
  near : gfold c none [] (hs.drop i) = gfold c (some hs[l]) [gp hs i l] (hs.drop (l + 1))
theorem Run.start (c : Int) (hs : List H) (i : Nat) (h : i < hs.length) : Run c hs i i := by
  refine ⟨Nat.le_refl _, h, ?_⟩
  rw [gfold_step c none [] hs i h, gp_one hs i h]; rfl
theorem Run.next {c : Int} {hs : List H} {i l : Nat} (r : Run c hs i l) (h : l + 1 < hs.length) (hc : hs[l + 1].at' - en (hs[l]'r.lt) ≤ 2 * c) : Run c hs i (l + 1) := by
  refine ⟨by have := r.il; omega, h, ?_⟩
  rw [r.near, gfold_step c _ _ hs (l + 1) h, gp_more hs i l r.il h]
  have e : gnew c (some (hs[l]'r.lt)) hs[l + 1] = false := decide_eq_false (by omega)
  have e2 := gadd_old [] (gp hs i l) hs[l + 1]
  rw [List.nil_append, List.nil_append] at e2
  rw [e, e2]
theorem Run.stop {c : Int} {hs : List H} {i l : Nat} (r : Run c hs i l) (h : ∀ _h : l + 1 < hs.length, 2 * c < hs[l + 1].at' - en (hs[l]'r.lt)) : gfold c none [] (hs.drop i) = gp hs i l :: gfold c none [] (hs.drop (l + 1)) := by
  rw [r.near]
  by_cases e : l + 1 < hs.length
  · have e1 : gnew c (some (hs[l]'r.lt)) hs[l + 1] = true := decide_eq_true (h e)
    rw [gfold_step c _ _ hs (l + 1) e, e1, gadd_new, gfold_pre, gfold_step c none [] hs (l + 1) e]; rfl
  · rw [List.drop_eq_nil_of_le (by omega)]; rfl
theorem run_ex (c : Int) (hs : List H) (i : Nat) (h : i < hs.length) : ∃ l, ∃ r : Run c hs i l, ∀ h : l + 1 < hs.length, 2 * c < hs[l + 1].at' - en (hs[l]'r.lt) := by
  have : ∀ n l, hs.length - l = n → Run c hs i l → ∃ l, ∃ r : Run c hs i l, ∀ h : l + 1 < hs.length, 2 * c < hs[l + 1].at' - en (hs[l]'r.lt) := by
    intro n
    induction n with
    | zero => intro l hn r; have := r.lt; omega
    | succ n ih =>
      intro l hn r
      by_cases e : l + 1 < hs.length
      · by_cases q : 2 * c < hs[l + 1].at' - en (hs[l]'r.lt)
        · exact ⟨l, r, fun _ => q⟩
        · exact ih (l + 1) (by omega) (r.next e (by omega))
      · exact ⟨l, r, fun h => (e h).elim⟩
  exact this _ i rfl (Run.start c hs i h)
/-! where the new text stands -/
theorem last_gr (hs : List H) : ∀ prev, Ch prev hs → prev ≤ lastE prev hs + gr hs := by
  induction hs with
  | nil => intro prev _; simp [lastE, gr]
  | cons h r ih =>
    intro prev hc
    have := ih (en h) hc.2
    have g := hc.1.gap
    have e : en h = h.at' + h.old.length := rfl
    simp only [lastE, gr]
    omega
theorem last_gr1 (h : H) (r : List H) (prev : Int) (hc : Ch prev (h :: r)) : h.at' ≤ lastE prev (h :: r) + gr (h :: r) := by
  have := last_gr r (en h) hc.2
  have e : en h = h.at' + h.old.length := rfl
  simp only [lastE, gr]
  omega
theorem ch_next {hs : List H} {prev : Int} (h : Ch prev hs) (k : Nat) (hk : k + 1 < hs.length) : en hs[k] < hs[k + 1].at' := by
  have := (ch_at h k (by omega)).2
  rw [List.drop_eq_getElem_cons hk] at this
  exact this.1.gap
theorem ch_take {hs : List H} : ∀ {prev : Int}, Ch prev hs → ∀ k, Ch prev (hs.take k) := by
  induction hs with
  | nil => intro prev _ k; rw [List.take_nil]; exact trivial
  | cons h r ih =>
    intro prev hc k
    cases k with
    | zero => exact trivial
    | succ k => exact ⟨hc.1, ih hc.2 k⟩
theorem last_take (hs : List H) (k : Nat) (h : k < hs.length) (prev : Int) : lastE prev (hs.take (k + 1)) = en hs[k] := by
  rw [List.take_succ_eq_append_getElem h, lastE_snoc]
theorem last_le {hs : List H} {prev : Int} (hc : Ch prev hs) (b : Int) (h : ∀ x ∈ hs, en x ≤ b) (hp : prev ≤ b) : lastE prev hs ≤ b := by
  induction hs generalizing prev with
  | nil => exact hp
  | cons x r ih => exact ih hc.2 (fun y hy => h y (List.mem_cons_of_mem _ hy)) (h x (List.mem_cons_self ..))
/-- a hunk of a patch that applies -/
theorem ok_at {hs : List H} {t : List ByteArray} (h : Ok hs t) (k : Nat) (hk : k < hs.length) :
    0 ≤ hs[k].at' ∧ hs[k].at' ≤ 120 ∧ en hs[k] ≤ t.length ∧ (∀ s ∈ hs[k].old, s.size ≤ 80) ∧ (∀ s ∈ hs[k].new, s.size ≤ 80) ∧ hs[k].old.length ≤ 120 ∧ hs[k].new.length ≤ 120 := by
  obtain ⟨⟨p, q⟩, -⟩ := ch_at h.vp.ch k hk
  exact ⟨q.lo, q.hi, (h.fit _ (List.getElem_mem hk)).hi, Lin.txt_size (Lin.vC_zero q.old), Lin.txt_size (Lin.vC_zero q.new), (Lin.vC_zero q.old).1, (Lin.vC_zero q.new).1⟩
theorem new_pos {hs : List H} {t : List ByteArray} (h : Ok hs t) (k : Nat) (hk : k < hs.length) : 0 ≤ en hs[k] + gr (hs.take (k + 1)) := by
  have hc := ch_take h.vp.ch (k + 1)
  have e := last_take hs k hk (-1)
  obtain ⟨x, r, hx⟩ : ∃ x r, hs.take (k + 1) = x :: r := by
    cases q : hs.take (k + 1) with
    | nil => have := congrArg List.length q; rw [List.length_take, List.length_nil] at this; omega
    | cons x r => exact ⟨x, r, rfl⟩
  rw [hx] at hc e ⊢
  have := last_gr1 x r (-1) hc
  have := hc.1.lo
  rw [e] at *
  omega
theorem new_le {hs : List H} {t : List ByteArray} (h : Ok hs t) (c : Int) (h0 : 0 ≤ c) (l : Nat) (hl : l < hs.length) (hs' : ∀ _h : l + 1 < hs.length, 2 * c < hs[l + 1].at' - en hs[l]) (hi : Int) (h1 : hi ≤ en hs[l] + c) (h2 : hi ≤ t.length) : hi + gr (hs.take (l + 1)) ≤ 120 := by
  have e := ok_len h
  have b := h.len
  have s : gr hs = gr (hs.take (l + 1)) + gr (hs.drop (l + 1)) := by rw [← gr_app, List.take_append_drop]
  by_cases q : l + 1 < hs.length
  · have hc := (ch_at h.vp.ch l hl).2
    have g := hs' q
    have le := last_le hc t.length (fun x hx => (h.fit x (List.mem_of_mem_drop hx)).hi) (ok_at h l hl).2.2.1
    rw [List.drop_eq_getElem_cons q] at hc s le
    have := last_gr1 _ _ _ hc
    omega
  · rw [List.drop_eq_nil_of_le (by omega)] at s
    simp only [gr] at s
    omega
end Tp
def nw (x : List Tp.H) : Nat := (x.map (fun h => h.new.length)).sum
def ol (x : List Tp.H) : Nat := (x.map (fun h => h.old.length)).sum
theorem nw_gr (x : List Tp.H) : Tp.gr x = (nw x : Int) - ol x := by
  induction x with
  | nil => rfl
  | cons h r ih => simp only [Tp.gr, ih, nw, ol, List.map_cons, List.sum_cons]; omega
theorem wg_gp {hs : List Tp.H} {t : List ByteArray} (h : Tp.Ok hs t) (hi : Nat) (h2 : hi ≤ t.length) (l : Nat) (hl : l < hs.length) (h1 : Tp.en hs[l] ≤ hi) : ∀ (n i f : Nat) (_hn : l - i = n) (hil : i ≤ l), f ≤ (hs[i]'(by omega)).at'.toNat → Wg t f (Tp.gp hs i l) hi := by
  intro n
  induction n with
  | zero =>
    intro i f hn hil hf
    obtain rfl : i = l := by omega
    obtain ⟨a1, a2, a3, a4, a5, a6, a7⟩ := Tp.ok_at h i hl
    have e : Tp.en hs[i] = hs[i].at' + hs[i].old.length := rfl
    rw [Tp.gp_one hs i hl]
    exact ⟨⟨a1, hf, by omega, a4, a5, a6, a7⟩, by omega, h2⟩
  | succ n ih =>
    intro i f hn hil hf
    have hi' : i < hs.length := by omega
    obtain ⟨a1, a2, a3, a4, a5, a6, a7⟩ := Tp.ok_at h i hi'
    have e : Tp.en hs[i] = hs[i].at' + hs[i].old.length := rfl
    rw [Tp.gp_cons hs i l hil hl, if_neg (by omega)]
    have g := Tp.ch_next h.vp.ch i (by omega)
    exact ⟨⟨a1, hf, by omega, a4, a5, a6, a7⟩, ih (i + 1) _ (by omega) (by omega) (by omega)⟩
theorem wg_len {t : List ByteArray} (ht : ∀ s ∈ t, s.size ≤ 80) (hi : Nat) (x : List Tp.H) : ∀ f, Wg t f x hi → (wgB t f x hi).length ≤ 82 * ((hi - f) + nw x) ∧ f + ol x ≤ hi := by
  induction x with
  | nil =>
    intro f h
    have m := lnsB_len 32 (mid t f hi) (fun s hs => ht s (List.mem_of_mem_drop (List.mem_of_mem_take hs)))
    rw [mid_size t f hi h.2] at m
    have q := h.1
    exact ⟨by simp only [wgB, nw, List.map_nil, List.sum_nil]; omega, by simp only [ol, List.map_nil, List.sum_nil]; omega⟩
  | cons h r ih =>
    intro f hw
    obtain ⟨⟨w0, w1, w2, w3, w4, w5, w6⟩, w7⟩ := hw
    obtain ⟨i1, i2⟩ := ih _ w7
    have m := lnsB_len 32 (mid t f h.at'.toNat) (fun s hs => ht s (List.mem_of_mem_drop (List.mem_of_mem_take hs)))
    rw [mid_size t f _ w2] at m
    have m2 := lnsB_len 45 h.old w3
    have m3 := lnsB_len 43 h.new w4
    have e : Tp.en h = h.at' + h.old.length := rfl
    have e' : (Tp.en h).toNat = h.at'.toNat + h.old.length := by omega
    rw [e'] at i1 i2 
    constructor
    · simp only [wgB, List.length_append, nw, List.map_cons, List.sum_cons]
      rw [e']
      unfold nw at i1
      omega
    · simp only [ol, List.map_cons, List.sum_cons]
      unfold ol at i2
      omega
/-- a hunk begins a group -/
def Sg (c : Int) (hs : List Tp.H) (i : Nat) : Prop := i = 0 ∨ ∃ h : i < hs.length, 2 * c < hs[i].at' - Tp.en hs[i - 1]
theorem lo_gp (c : Int) (hs : List Tp.H) (i l : Nat) (h1 : i ≤ l) (h : l < hs.length) : (Tp.loF c (Tp.gp hs i l) : Int) = max ((hs[i]'(by omega)).at' - c) 0 := by
  unfold Tp.loF; rw [Tp.gp_head hs i l h1 h]; simp only [Option.getD_some]; omega
theorem hi_gp {c : Int} {t : List ByteArray} {hs : List Tp.H} (i l : Nat) (h1 : i ≤ l) (h : l < hs.length) (h0 : 0 ≤ Tp.en hs[l] + c) : (Tp.hiF t c (Tp.gp hs i l) : Int) = min (Tp.en hs[l] + c) t.length := by
  unfold Tp.hiF; rw [Tp.gp_last hs i l h1 h]; simp only [Option.getD_some]; omega
theorem fm1_gp {hs : List Tp.H} {t : List ByteArray} {c : Int} (h : Tp.Ok hs t) (h0 : 0 ≤ c) {i l : Nat} (r : Tp.Run c hs i l) (hstop : ∀ h : l + 1 < hs.length, 2 * c < hs[l + 1].at' - Tp.en (hs[l]'r.lt)) (hs0 : Sg c hs i) : Fm1 1000 t c (Tp.gr (hs.take i)) (Tp.gp hs i l) := by
  have hil := r.il
  have hl := r.lt
  have hi' : i < hs.length := by omega
  obtain ⟨a1, a2, a3, a4, a5, a6, a7⟩ := Tp.ok_at h i hi'
  obtain ⟨b1, b2, b3, b4, b5, b6, b7⟩ := Tp.ok_at h l hl
  have el : Tp.en hs[l] = hs[l].at' + hs[l].old.length := rfl
  have hlo := lo_gp c hs i l hil hl
  have hhi := hi_gp (c := c) (t := t) i l hil hl (by omega)
  have ht := (Lin.vC_zero h.vt)
  have htl := ht.1
  have np := Tp.new_le h c h0 l hl hstop (Tp.hiF t c (Tp.gp hs i l)) (by omega) (by omega)
  have gg := Tp.gp_gr hs i l hil
  have wg := wg_gp h (Tp.hiF t c (Tp.gp hs i l)) (by omega) l hl (by omega) _ i (Tp.loF c (Tp.gp hs i l)) rfl hil (by omega)
  have wl := wg_len (Lin.txt_size ht) _ _ _ wg
  have ng := nw_gr (Tp.gp hs i l)
  have g0 : 0 ≤ (Tp.loF c (Tp.gp hs i l) : Int) + Tp.gr (hs.take i) := by
    rcases hs0 with rfl | ⟨_, q⟩
    · simp only [List.take_zero, Tp.gr]; omega
    · by_cases e : i = 0
      · subst e; simp only [List.take_zero, Tp.gr]; omega
      · have := Tp.new_pos h (i - 1) (by omega)
        rw [show i - 1 + 1 = i by omega] at this
        omega
  refine ⟨?_, wg, by omega, g0, ?_, by omega, by omega, ?_, ?_, ?_⟩
  · intro e
    have := Tp.gp_len hs i l hil hl
    rw [e] at this; simp at this; omega
  · omega
  · rw [Tp.gp_len hs i l hil hl]; have := h.vp.len; omega
  · intro x hx
    have hx' : x ∈ hs := List.mem_of_mem_drop (List.mem_of_mem_take hx)
    obtain ⟨k, hk, rfl⟩ := List.getElem_of_mem hx'
    have := Tp.ok_at h k hk
    omega
  · omega
theorem fm_all {hs : List Tp.H} {t : List ByteArray} {c : Int} (h : Tp.Ok hs t) (h0 : 0 ≤ c) : ∀ n i, hs.length - i = n → i ≤ hs.length → (i < hs.length → Sg c hs i) → FmOk 1000 t c (Tp.gr (hs.take i)) (Tp.gfold c none [] (hs.drop i)) ∧ (Tp.gfold c none [] (hs.drop i)).length ≤ hs.length - i := by
  intro n
  induction n using Nat.strongRecOn with
  | _ n ih =>
    intro i hn hi hsg
    by_cases e : i < hs.length
    · obtain ⟨l, r, hstop⟩ := Tp.run_ex c hs i e
      have hil := r.il
      have hl := r.lt
      rw [r.stop hstop]
      obtain ⟨k1, k2⟩ := ih (hs.length - (l + 1)) (by omega) (l + 1) rfl (by omega) (fun q => .inr ⟨q, by simpa using hstop q⟩)
      rw [← Tp.gp_gr hs i l hil] at k1
      exact ⟨⟨fm1_gp h h0 r hstop (hsg e), k1⟩, by rw [List.length_cons]; omega⟩
    · rw [List.drop_eq_nil_of_le (by omega)]
      exact ⟨trivial, by simp [Tp.gfold]⟩
theorem fm_okall {hs : List Tp.H} {t : List ByteArray} {c : Int} (h : Tp.Ok hs t) (h0 : 0 ≤ c) : FmOk 1000 t c 0 (Tp.gfold c none [] hs) ∧ (Tp.gfold c none [] hs).length ≤ 130 := by
  have := fm_all h h0 _ 0 rfl (Nat.zero_le _) (fun _ => .inl rfl)
  rw [List.drop_zero, List.take_zero] at this
  exact ⟨this.1, by have := this.2; have := h.vp.len; omega⟩
/-! the reference's way through a group -/
theorem wg_old {t : List ByteArray} {h : Tp.H} {r : List Tp.H} {k hi : Nat} (hw : Wg t k (h :: r) hi) (hk : h.at' = k) : wgB t k (h :: r) hi = lnsB 45 h.old ++ lnsB 43 h.new ++ wgB t (k + h.old.length) r hi ∧ Wg t (k + h.old.length) r hi ∧ Tp.en h = (k : Int) + h.old.length := by
  have e : Tp.en h = h.at' + h.old.length := rfl
  have e' : (Tp.en h).toNat = k + h.old.length := by omega
  have w := hw.2
  rw [e'] at w
  refine ⟨?_, w, by omega⟩
  simp only [wgB]
  rw [e', show h.at'.toNat = k by omega, mid_nil, lnsB_nil, List.nil_append]
theorem mid_step (t : List ByteArray) (k j : Nat) (h : k < j) (hj : j ≤ t.length) : mid t k j = t[k]'(by omega) :: mid t (k + 1) j := by
  unfold mid
  rw [List.drop_eq_getElem_cons (by omega), show j - k = (j - (k + 1)) + 1 by omega, List.take_succ_cons]
theorem wg_text {t : List ByteArray} {h : Tp.H} {r : List Tp.H} {k hi : Nat} (hw : Wg t k (h :: r) hi) (hk : (k : Int) < h.at') : ∃ q : k < t.length, wgB t k (h :: r) hi = lnB 32 t[k] ++ wgB t (k + 1) (h :: r) hi ∧ Wg t (k + 1) (h :: r) hi := by
  obtain ⟨⟨w0, w1, w2, w3⟩, w7⟩ := hw
  refine ⟨by omega, ?_, ⟨⟨w0, by omega, w2, w3⟩, w7⟩⟩
  simp only [wgB]
  rw [mid_step t k _ (by omega) w2]
  simp only [lnsB, List.flatMap_cons, List.append_assoc]
theorem wg_tail {t : List ByteArray} {k hi : Nat} (hw : Wg t k [] hi) (hk : k < hi) : ∃ q : k < t.length, wgB t k [] hi = lnB 32 t[k] ++ wgB t (k + 1) [] hi ∧ Wg t (k + 1) [] hi := by
  obtain ⟨w0, w1⟩ := hw
  refine ⟨by omega, ?_, by omega, w1⟩
  simp only [wgB]
  rw [mid_step t k _ hk w1]
  simp only [lnsB, List.flatMap_cons]
theorem wg_done (t : List ByteArray) (hi : Nat) : wgB t hi [] hi = [] := by simp only [wgB]; rw [mid_nil]; rfl
/-- the hunks of a group from i' on -/
def gx (hs : List Tp.H) (i' l : Nat) : List Tp.H := if i' ≤ l then Tp.gp hs i' l else []
theorem gx_cons (hs : List Tp.H) (i' l : Nat) (h1 : i' ≤ l) (h : l < hs.length) : gx hs i' l = hs[i'] :: gx hs (i' + 1) l := by
  unfold gx
  rw [if_pos h1, Tp.gp_cons hs i' l h1 h]
  by_cases e : i' = l
  · rw [if_pos e, if_neg (by omega)]
  · rw [if_neg e, if_pos (by omega)]
theorem gx_end (hs : List Tp.H) (l : Nat) : gx hs (l + 1) l = [] := if_neg (by omega)
end Go.Proofs.YtcheggdfcdokiaaDoor
