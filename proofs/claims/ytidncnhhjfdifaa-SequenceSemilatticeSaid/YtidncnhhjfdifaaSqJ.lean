
/-
  Package sequence: ordered.
-/
import Derived.Test.YtidncnhhjfdifaaSqG
import Derived.Test.YtidncnhhjfdifaaSqI
import Derived.Test.YtidncnhhjfdifaaSrt
import Derived.Test.YtidncnhhjfdifaaShelfS
import Derived.Shelf.SlSortCmp.NoneTotal
import Derived.Lib.SmallJoins
namespace Go.Proofs.Ytidncnhhjfdifaa
open Go.RowKit Go.Sort
set_option maxRecDepth 4000

instance : Inhabited Sq.O := ⟨⟨false, 0, 0, 0, 0, ByteArray.empty⟩⟩
namespace Sq
theorem cmp3_neg {a b : Int} : cmp3 a b < 0 ↔ a < b := by
  unfold cmp3
  split
  · omega
  · split <;> omega
theorem cmp3_zero {a b : Int} : cmp3 a b = 0 ↔ a = b := by
  unfold cmp3
  split
  · omega
  · split <;> omega
/-- the order of operations: by counter, replica, kind -/
def lt (p q : O) : Prop := p.cnt < q.cnt ∨ (p.cnt = q.cnt ∧ (p.rep < q.rep ∨ (p.rep = q.rep ∧ p.kd < q.kd)))
theorem cmpE_neg {x y : El} : cmpE x y < 0 ↔ x.1 < y.1 ∨ (x.1 = y.1 ∧ x.2 < y.2) := by
  unfold cmpE
  by_cases h : cmp3 x.1 y.1 = 0
  · rw [if_pos h, cmp3_neg]; rw [cmp3_zero] at h; omega
  · rw [if_neg h, cmp3_neg]; rw [cmp3_zero] at h; omega
theorem cmpE_zero {x y : El} : cmpE x y = 0 ↔ x.1 = y.1 ∧ x.2 = y.2 := by
  unfold cmpE
  by_cases h : cmp3 x.1 y.1 = 0
  · rw [if_pos h, cmp3_zero]; rw [cmp3_zero] at h; omega
  · rw [if_neg h]; constructor
    · intro h'; exact (h h').elim
    · rintro ⟨h1, -⟩; exact (h (cmp3_zero.2 h1)).elim
theorem cmpO_neg {p q : O} : cmpO p q < 0 ↔ lt p q := by
  unfold cmpO lt
  by_cases h : cmpE p.el q.el = 0
  · rw [if_pos h, cmp3_neg]; rw [cmpE_zero] at h; unfold O.el at h; dsimp only at h; omega
  · rw [if_neg h, cmpE_neg]; rw [cmpE_zero] at h; unfold O.el at h ⊢; dsimp only at h ⊢; omega
theorem swo : SWO (ltOf cmpO) where
  irrefl x := by unfold ltOf; rw [decide_eq_false_iff_not, cmpO_neg]; unfold lt; omega
  trans x y z h1 h2 := by
    unfold ltOf at *
    rw [decide_eq_true_eq, cmpO_neg] at *
    unfold lt at *; omega
  ntrans x y z h1 h2 := by
    unfold ltOf at *
    rw [decide_eq_false_iff_not, cmpO_neg] at *
    unfold lt at *; omega
/-- in the order of elements -/
def Srt (l : List O) : Prop := l.Pairwise (fun p q => ¬ lt q p)
end Sq
theorem cmp_lays (blk off size : Nat) (w : World) : CmpLays Try.prog 81 #[] Sq.O.enc 6 Sq.cmpO blk off size w := fun _ _ _ _ x y =>
  (cmpOps_g x y _).mono fun _ _ ⟨he, hb, hd⟩ => ⟨he, below_grown_by hb hd⟩
theorem sortOps_any (base : Nat) (v : Value) (l : List Sq.O) (w : World) (h : OwnE opE base w v l) (hl : l.length ≤ 1000000) (hbs : base ≤ w.heap.size) :
    Calls Try.prog 106 #[v, .func (.func 81) #[] #[]] w fun e w' => e = .returned (.tuple #[]) ∧ ∃ l', l'.Perm l ∧ Sq.Srt l' ∧ OwnE opE base w' v l' ∧ Below base w w' := by
  by_cases hne : l = []
  · subst hne
    obtain ⟨p, cap, rfl, -, -, -, -⟩ := row_of_own h
    have hc := AnyF.slices_SortFunc_none Try.sortFn p cap (.func (.func 81) #[] #[]) w
    change Calls Try.prog 106 _ _ _ at hc
    exact hc.mono fun _ _ ⟨h1, h2⟩ => ⟨h1, [], .nil, List.Pairwise.nil, h2 ▸ h, h2 ▸ Below.refl _ _⟩
  · obtain ⟨g, cap, rfl, hb, hlt, hH, hW⟩ := own_sort opE h hne
    have eg : ∀ args w, (callFunc 81 args).run Try.prog w = .ok (.enter 81 args) w := enters_of Try.func81 (by kernel_rfl) rfl
    have hc := AnyQ.slices_SortFunc Try.sortFn 6 (fun _ => by kernel_rfl) (fun _ => by kernel_rfl) Sq.O.enc (fun _ => rfl) opE.one Sq.cmpO Sq.swo 81 #[] g 0 cap l.toArray w eg (cmp_lays g 0 _ w) hH hlt (by simp; omega)
    change Calls Try.prog 106 _ _ _ at hc
    rw [List.size_toArray] at hc
    refine hc.mono ?_
    rintro e w' ⟨he, d, n, os, hP, hS, rfl⟩
    have hd : d.size = l.length := by simpa using hP.1
    obtain ⟨o1, o2⟩ := hW d n os hd
    refine ⟨he, d.toList, ?_, ?_, o1, (Below.refl _ _).grown o2 hbs (fun k e => by cases e; exact hb)⟩
    · have := hP.2.2
      rw [show (l.toArray.extract 0 l.length).toList = l by simp, show (d.extract 0 l.length).toList = d.toList by rw [← hd]; simp] at this
      exact this
    · unfold Sq.Srt
      rw [List.pairwise_iff_getElem]
      intro i j hi hj hij hlt'
      have hi' : i < d.size := by simpa using hi
      have hj' : j < d.size := by simpa using hj
      have := hS i j (Nat.zero_le _) hij (by omega)
      unfold ltOf at this
      rw [decide_eq_false_iff_not, Sq.cmpO_neg, getElem!_pos d j hj', getElem!_pos d i hi'] at this
      exact this (by simpa using hlt')
set_option maxRecDepth 100000 in
theorem ordered_any (p : Option Addr) (l : List Sq.O) (cap : Nat) (hl : l.length ≤ 1000000) (w : World) (hp : Row opE w p l) :
    Calls Try.prog 51 #[.slice p l.length cap] w fun e w' => ∃ v l', e = .returned v ∧ l'.Perm l ∧ Sq.Srt l' ∧ OwnE opE w.heap.size w' v l' ∧ Below w.heap.size w w' := by
  have up0 : Below w.heap.size w (w.alloc (.cells #[.slice p l.length cap] 41)) := up_alloc (Below.refl _ _) _
  have HC := Lib.hid (collect_any p l cap hl w.heap.size (w.alloc (.cells #[.slice p l.length cap] 41)) (by simp) (by simp) (hp.mono up0))
  clear hp
  go_enter Try.func51, Try.ntmps51
  have SF : Hid (Calls Try.prog 79 #[.func (.func 107) #[] #[.pointer (some ⟨w.heap.size, 0, none⟩)], .func (.func 81) #[] #[]] (w.alloc (.cells #[.slice p l.length cap] 41))
      fun e w' => ∃ v l', e = .returned v ∧ l'.Perm l ∧ Sq.Srt l' ∧ OwnE opE w.heap.size w' v l' ∧ Below w.heap.size w w') := Lib.hid (by
    generalize hW : w.alloc (.cells #[.slice p l.length cap] 41) = W at up0 HC ⊢
    have hz : W.heap.size = w.heap.size + 1 := by rw [← hW]; simp
    go_enter Try.func79, Try.ntmps79
    go_wp2_with (go_at_call 105; refine HC.out.mono ?_; rintro e w2 ⟨v, rfl, ho, hb2⟩)
    refine (sortOps_any w.heap.size v l w2 (Joins.ownsRow_le ho (by omega)) hl (by have := hb2.size; omega)).mono ?_
    rintro e w3 ⟨rfl, l', h1, h2, h3, h4⟩
    go_wp2_with fail
    go_returns
    exact ⟨v, l', rfl, h1, h2, h3, (up_call up0 hb2).trans h4⟩)
  clear HC
  go_wp2_with (first | (go_at_call 80; refine (values_mk _ _ _ _).mono ?_; rintro e w2 ⟨rfl, rfl⟩) | (go_at_call 79; refine SF.out.mono ?_; rintro e w3 ⟨v, l', rfl, h1, h2, h3, h4⟩))
  go_returns
  exact ⟨v, l', rfl, h1, h2, h3, h4⟩
end Go.Proofs.Ytidncnhhjfdifaa
