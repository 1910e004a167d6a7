
/-
  Plain mathematics of lines that are typed one after the other.
-/
import Derived.Test.YtidncnhhjfdifaaSqZ
namespace Go.Proofs.Ytidncnhhjfdifaa
open Go.RowKit
set_option maxRecDepth 4000
namespace Sq
/-- the i-th typed line -/
def tp (r : Int) (i : Nat) (s : ByteArray) : O := ⟨false, r, (i : Int) + 1, if i = 0 then 0 else r, i, s⟩
def typ (r : Int) : Nat → List ByteArray → List O
  | _, [] => []
  | i, s :: t => tp r i s :: typ r (i + 1) t
theorem typ_len (r : Int) : ∀ (l : List ByteArray) (i : Nat), (typ r i l).length = l.length
  | [], _ => rfl
  | s :: t, i => by unfold typ; rw [List.length_cons, typ_len r t (i + 1), List.length_cons]
theorem typ_app (r : Int) : ∀ (a b : List ByteArray) (i : Nat), typ r i (a ++ b) = typ r i a ++ typ r (i + a.length) b
  | [], b, i => rfl
  | s :: t, b, i => by
    show tp r i s :: typ r (i + 1) (t ++ b) = tp r i s :: (typ r (i + 1) t ++ typ r (i + (t.length + 1)) b)
    rw [typ_app r t b (i + 1), show i + 1 + t.length = i + (t.length + 1) by omega]
theorem typ_next (r : Int) {l : List ByteArray} {k : Nat} (h : k < l.length) : typ r 0 (l.take (k + 1)) = typ r 0 (l.take k) ++ [tp r k l[k]] := by
  rw [List.take_succ_eq_append_getElem h, typ_app]
  congr 1
  show [tp r (0 + (l.take k).length) l[k]] = _
  rw [List.length_take, show 0 + min k l.length = k by omega]
theorem typ_mem {r : Int} : ∀ {l : List ByteArray} {i : Nat} {o : O}, o ∈ typ r i l → ∃ j, ∃ (h : j < l.length), o = tp r (i + j) l[j]
  | [], _, _, h => by cases h
  | s :: t, i, o, h => by
    unfold typ at h
    rcases List.mem_cons.1 h with rfl | h
    · exact ⟨0, by simp, rfl⟩
    · obtain ⟨j, hj, rfl⟩ := typ_mem h
      exact ⟨j + 1, by simpa using hj, by rw [show i + 1 + j = i + (j + 1) by omega]; rfl⟩
theorem typ_has {r : Int} : ∀ {l : List ByteArray} {i j : Nat} (h : j < l.length), tp r (i + j) l[j] ∈ typ r i l
  | s :: t, i, 0, h => by unfold typ; exact List.mem_cons_self ..
  | s :: t, i, j + 1, h => by
    unfold typ
    refine List.mem_cons_of_mem _ ?_
    have := typ_has (r := r) (l := t) (i := i + 1) (j := j) (by simpa using h)
    rw [show i + 1 + j = i + (j + 1) by omega] at this
    exact this
theorem typ_srt (r : Int) : ∀ (l : List ByteArray) (i : Nat), (typ r i l).Pairwise (fun p q => p.cnt < q.cnt)
  | [], _ => List.Pairwise.nil
  | s :: t, i => by
    unfold typ
    refine List.pairwise_cons.2 ⟨fun o ho => ?_, typ_srt r t (i + 1)⟩
    obtain ⟨j, hj, rfl⟩ := typ_mem ho
    show (i : Int) + 1 < ((i + 1 + j : Nat) : Int) + 1
    omega
theorem oC_tp {r : Int} {i : Nat} {s : ByteArray} (hi : i < 60) : oC (tp r i s) = 0 ↔ (0 ≤ r ∧ r < 6) ∧ Lin.vC [s] = 0 := by
  have e1 : (tp r i s).el = ((i : Int) + 1, r) := rfl
  have e2 : (tp r i s).pr = ((i : Int), if i = 0 then 0 else r) := rfl
  by_cases hr : 0 ≤ r ∧ r < 6
  · have hin : inR (tp r i s).el = true := by
      rw [e1]; unfold inR
      simp only [Bool.and_eq_true, decide_eq_true_eq]
      omega
    have hin2 : ((tp r i s).acnt = 0 ∧ (tp r i s).arep = 0) ∨ inR (tp r i s).pr = true := by
      by_cases h0 : i = 0
      · left; subst h0; exact ⟨rfl, rfl⟩
      · right
        rw [e2, if_neg h0]; unfold inR
        simp only [Bool.and_eq_true, decide_eq_true_eq]
        omega
    have hc : ¬ 0 ≤ cmpE (tp r i s).pr (tp r i s).el := by
      rw [Int.not_le, cmpE_neg, e1, e2]
      left; show (i : Int) < (i : Int) + 1; omega
    unfold oC
    rw [if_pos hin, if_neg (by show ¬ false = true; decide), iC_line hin2 hc]
    exact ⟨fun h => ⟨hr, h⟩, fun h => h.2⟩
  · have hin : ¬ inR (tp r i s).el = true := by
      rw [e1]; unfold inR
      simp only [Bool.and_eq_true, decide_eq_true_eq]
      omega
    unfold oC
    rw [if_neg hin]
    exact ⟨fun h => by simp at h, fun h => (hr h.1).elim⟩
theorem txt_one {s : ByteArray} : Lin.vC [s] = 0 ↔ Lin.lc s = 0 :=
  ⟨fun h => (Lin.vC_zero h).2 s (by simp), fun h => Lin.vC_txt ⟨by simp, fun x hx => by rw [List.mem_singleton.1 hx]; exact h⟩⟩
theorem typ_vC {r : Int} {l : List ByteArray} (hl : l ≠ []) : vC (typ r 0 l) = 0 ↔ (0 ≤ r ∧ r < 6) ∧ l.length ≤ 60 ∧ Lin.vC l = 0 := by
  constructor
  · intro h
    have hV := val_of h
    have h60 : l.length ≤ 60 := by have := hV.len; rwa [typ_len] at this
    have ok : ∀ j (hj : j < l.length), (0 ≤ r ∧ r < 6) ∧ Lin.vC [l[j]] = 0 := fun j hj => by
      have := hV.ok _ (typ_has (r := r) (i := 0) hj)
      rw [Nat.zero_add] at this
      exact (oC_tp (by omega)).1 this
    have h0 : 0 < l.length := List.length_pos_iff.2 hl
    refine ⟨(ok 0 h0).1, h60, Lin.vC_txt ⟨by omega, fun x hx => ?_⟩⟩
    obtain ⟨j, hj, rfl⟩ := List.mem_iff_getElem.1 hx
    exact txt_one.1 (ok j hj).2
  · rintro ⟨hr, h60, hv⟩
    have ht := Lin.vC_zero hv
    refine (val_to ⟨by rw [typ_len]; exact h60, fun o ho => ?_, ?_, fun o ho hn => ?_⟩).1
    · obtain ⟨j, hj, rfl⟩ := typ_mem ho
      rw [Nat.zero_add]
      exact (oC_tp (by omega)).2 ⟨hr, txt_one.2 (ht.2 _ (List.getElem_mem hj))⟩
    · rw [List.Nodup, List.pairwise_map]
      refine (typ_srt r l 0).imp fun {p q} h e => ?_
      have := congrArg (fun x : Id => x.1.1) e
      exact absurd this (by show p.cnt ≠ q.cnt; omega)
    · obtain ⟨j, hj, rfl⟩ := typ_mem ho
      rw [Nat.zero_add] at hn ⊢
      have e2 : (tp r j l[j]).nd = ((j : Int), if j = 0 then 0 else r) := rfl
      rw [e2] at hn ⊢
      by_cases h0 : j = 0
      · subst h0; exact (hn rfl).elim
      · rw [if_neg h0]
        have := typ_has (r := r) (l := l) (i := 0) (j := j - 1) (by omega)
        refine List.mem_map.2 ⟨_, this, ?_⟩
        rw [Nat.zero_add]
        show (((((j - 1 : Nat) : Int) + 1, r) : El), (0 : Int)) = (((j : Int), r), 0)
        rw [show ((j - 1 : Nat) : Int) + 1 = (j : Int) by omega]
theorem typ_fol (r : Int) (x : El) : ∀ (l : List ByteArray) (i : Nat), (typ r i l).filter (fun o => !o.del && decide (o.pr = x)) =
    if h : (i : Int) ≤ x.1 ∧ x.1 < i + l.length ∧ x.2 = (if x.1 = 0 then 0 else r) then [tp r x.1.toNat (l[x.1.toNat - i]'(by omega))] else []
  | [], i => by
    rw [dif_neg (by simp; omega)]; rfl
  | s :: t, i => by
    unfold typ
    rw [List.filter_cons, typ_fol r x t (i + 1)]
    have e2 : (tp r i s).pr = ((i : Int), if i = 0 then 0 else r) := rfl
    rw [show (tp r i s).del = false from rfl, e2]
    obtain ⟨x1, x2⟩ := x
    dsimp only
    by_cases hx : x1 = (i : Int)
    · subst hx
      rw [dif_neg (by omega)]
      by_cases h2 : x2 = if (i : Int) = 0 then 0 else r
      · rw [dif_pos ⟨Int.le_refl _, by simp; omega, h2⟩]
        have : (if i = 0 then (0 : Int) else r) = x2 := by
          rw [h2]; by_cases h0 : i = 0
          · rw [if_pos h0, if_pos (by omega)]
          · rw [if_neg h0, if_neg (by omega)]
        simp [this]
      · rw [dif_neg (fun h => h2 h.2.2)]
        have : ¬ (if i = 0 then (0 : Int) else r) = x2 := by
          intro e; apply h2; rw [← e]
          by_cases h0 : i = 0
          · rw [if_pos h0, if_pos (by omega)]
          · rw [if_neg h0, if_neg (by omega)]
        simp [this]
    · have hne : ¬ (((i : Int), if i = 0 then 0 else r) : El) = (x1, x2) := fun e => hx (congrArg Prod.fst e).symm
      rw [decide_eq_false hne]
      simp only [Bool.not_false, Bool.and_false, Bool.false_eq_true, if_false]
      by_cases h : (i : Int) ≤ x1 ∧ x1 < i + (s :: t).length ∧ x2 = (if x1 = 0 then 0 else r)
      · rw [dif_pos h, dif_pos ⟨by omega, by have := h.2.1; simp at this; omega, h.2.2⟩]
        have hk : x1.toNat - i = (x1.toNat - (i + 1)) + 1 := by omega
        congr 2
        simp [hk]
      · rw [dif_neg h, dif_neg (fun h' => h ⟨by omega, by have := h'.2.1; simp; omega, h'.2.2⟩)]
theorem typ_vL {r : Int} {l : List ByteArray} (h : vC (typ r 0 l) = 0) : vL (typ r 0 l) = l := by
  have hV := val_of h
  have hS : Srt (typ r 0 l) := (typ_srt r l 0).imp fun {p q} h hlt => by unfold lt at hlt; omega
  rw [vL_at hV (List.Perm.refl _) hS]
  unfold vw
  have hrk : ∀ x, ∀ a ∈ Fo (typ r 0 l) x, rk (typ r 0 l) a.el < rk (typ r 0 l) x := fun x a ha => rk_lt hV.ok x a ha
  rw [fwV_fuel (rk (typ r 0 l)) hrk (rk (typ r 0 l) (0, 0)) (rk (typ r 0 l) (0, 0) + l.length) (0, 0) (Nat.le_refl _) (Nat.le_add_right _ _)]
  have hF : ∀ x, Fo (typ r 0 l) x = ((typ r 0 l).filter (fun o => !o.del && decide (o.pr = x))).reverse := fun x => by
    rw [Fo_eq]; unfold FoR; rw [List.filter_reverse]
  have hD : ∀ x, De (typ r 0 l) x = false := fun x => by
    cases hd : De (typ r 0 l) x with
    | false => rfl
    | true =>
      obtain ⟨a, ha, had, -⟩ := De_iff.1 hd
      obtain ⟨j, hj, rfl⟩ := typ_mem ha
      cases had
  have key : ∀ (n fuel i : Nat), l.length - i = n → n ≤ fuel → i ≤ l.length → fwV (De (typ r 0 l)) (Fo (typ r 0 l)) fuel ((i : Int), if i = 0 then 0 else r) = l.drop i := by
    intro n
    induction n with
    | zero =>
      intro fuel i hn hf hi
      have hi' : i = l.length := by omega
      rw [List.drop_eq_nil_of_le (by omega)]
      cases fuel with
      | zero => rfl
      | succ f =>
        unfold fwV
        rw [hF, typ_fol, dif_neg (by dsimp only; omega)]
        rfl
    | succ n ih =>
      intro fuel i hn hf hi
      have hlt : i < l.length := by omega
      cases fuel with
      | zero => omega
      | succ f =>
        unfold fwV
        rw [hF, typ_fol, dif_pos (by
          dsimp only
          refine ⟨by omega, by omega, ?_⟩
          by_cases h0 : i = 0
          · rw [if_pos h0, if_pos (by omega)]
          · rw [if_neg h0, if_neg (by omega)])]
        have h1 := ih f (i + 1) (by omega) (by omega) (by omega)
        rw [if_neg (by omega)] at h1
        simp only [List.reverse_cons, List.reverse_nil, List.nil_append, List.flatMap_cons, List.flatMap_nil, List.append_nil, hD]
        have e : (tp r ((i : Int)).toNat (l[((i : Int)).toNat - 0]'(by simpa using hlt))).el = (((i + 1 : Nat) : Int), r) := by
          show (((((i : Int)).toNat : Nat) : Int) + 1, r) = _
          simp
        rw [e, h1, List.drop_eq_getElem_cons hlt]
        simp [tp]
  have := key l.length (rk (typ r 0 l) (0, 0) + l.length) 0 (by omega) (Nat.le_add_left _ _) (Nat.zero_le _)
  simpa using this
end Sq
end Go.Proofs.Ytidncnhhjfdifaa
