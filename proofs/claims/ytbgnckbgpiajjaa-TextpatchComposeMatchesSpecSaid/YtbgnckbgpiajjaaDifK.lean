/-
  The reference's Distance, Script and Kept, walked.
-/
import Derived.Test.YtbgnckbgpiajjaaDifQ
namespace Go.Proofs.Ytbgnckbgpiajjaa
open Go.RowKit
set_option maxRecDepth 4000

theorem al_len (a b : List ByteArray) : (Dif.al a b).length ≤ a.length + b.length := by
  fun_induction Dif.al a b <;> simp_all <;> omega
theorem al_mem (a b : List ByteArray) : ∀ x ∈ Dif.al a b, x.2 ∈ a ∨ x.2 ∈ b := by
  fun_induction Dif.al a b
  case case1 => intro x hx; cases hx
  all_goals
    rename_i ih
    intro x hx
    rcases List.mem_cons.1 hx with rfl | hx
    · simp
    · have := ih x hx
      simp at this ⊢
      try grind

/-- the distance of two texts -/
def dist (a b : List ByteArray) : Int := (a.length : Int) + b.length - 2 * (Dif.lcs a b : Nat)
set_option maxHeartbeats 2000000 in
theorem refScript_any (p q : Option Addr) (a b : List ByteArray) (n m cap cap' : Nat) (w : World) (hn : n = a.length) (hm : m = b.length) (hp : Sts w p a) (hq : Sts w q b) (ha : a.length ≤ 1000000) (hb : b.length ≤ 1000000) :
    Calls Try.prog 46 #[.slice p n cap, .slice q m cap'] w (PtPost (Dif.pof (Dif.al a b)) w) := by
  subst hn hm
  have HP := Lib.hid hp
  have HQ := Lib.hid hq
  go_enter Try.func46, Try.ntmps46
  go_wp2_with fail
  have up : Below w.heap.size w (w.alloc (.cells #[.slice none 0 0] 41 (0, 0))) := (Below.refl w.heap.size w).alloc (Nat.le_refl _) _
  refine (align_any p q a b _ _ _ _ _ rfl rfl (hp.mono up) (hq.mono up) ha hb).mono ?_
  rintro e w1 ⟨v, rfl, own, hb1⟩
  obtain ⟨p', cap', rfl, row, -, -, -⟩ := row_of_own own
  have hsm : ∀ x ∈ Dif.al a b, x.2.size ≤ 140737488351232 := fun x hx => by
    rcases al_mem a b x hx with h | h
    · exact hp.small _ h
    · exact hq.small _ h
  have hll := al_len a b
  have F0 := hb1.cell (p := ⟨w.heap.size, 0, none⟩) (by simp)
  have F1 := hb1.frozen (p := ⟨w.heap.size, 0, none⟩) (by simp)
  rw [World.cell?_alloc_mark] at F0
  rw [World.frozen?_alloc_mark] at F1
  have hz1 := hb1.size
  rw [World.size_alloc] at hz1
  have RW := Lib.hid row
  clear own hp hq
  go_wp2_with fail
  refine (patchOf_any p' (Dif.al a b) _ _ w1 rfl RW.out hsm (by omega)).mono ?_
  rintro e w2 ⟨p2, cap2, rfl, hpt, hc0, hc1, hb2⟩
  have G0 : w2.cell? ⟨w.heap.size, 0, none⟩ = some (.slice none 0 0) := by rw [hb2.cell (p := ⟨w.heap.size, 0, none⟩) (by dsimp only; omega), F0]; rfl
  have G1 : w2.frozen? ⟨w.heap.size, 0, none⟩ = false := by rw [hb2.frozen (p := ⟨w.heap.size, 0, none⟩) (by dsimp only; omega), F1]; rfl
  have d0 : (w2.setCell ⟨w.heap.size, 0, none⟩ (.slice p2 (Dif.pof (Dif.al a b)).length cap2)).cell? ⟨w.heap.size, 0, none⟩ = some (.slice p2 (Dif.pof (Dif.al a b)).length cap2) := World.cell?_setCell_same _ _ _ G0
  have R := Lib.hid (And.intro hpt (And.intro hc0 hc1))
  have HB := Lib.hid (up_call (up_call up hb1) hb2)
  clear hpt hc0 hc1 F0 F1
  go_wp2_with fail
  refine bodyPost_ret (v := .agg #[.slice p2 (Dif.pof (Dif.al a b)).length cap2]) (by simp [results, Try.results46, go_sem, d0]) rfl ⟨p2, cap2, rfl, fun W h1 h2 => ?_, R.out.2.1, R.out.2.2, HB.out.setCell (Nat.le_refl _) _⟩
  rw [World.size_setCell] at h1 h2
  refine R.out.1 W h1 fun k hk hk' => ?_
  rw [h2 k (by omega) hk', Below.heap_setCell _ _ _ _ (by dsimp only; omega)]
/-- the kept ones of a list of steps -/
def kept (l : List (Nat × ByteArray)) : List ByteArray := (l.filter (fun s => s.1 == 0)).map (·.2)
theorem kept_next (l : List (Nat × ByteArray)) (k : Nat) (h : k < l.length) : kept (l.take (k + 1)) = kept (l.take k) ++ (if l[k].1 = 0 then [l[k].2] else []) := by
  unfold kept
  rw [List.take_succ_eq_append_getElem h, List.filter_append, List.map_append]
  congr 1
  by_cases e : l[k].1 = 0
  · simp [List.filter, e]
  · have : (l[k].1 == 0) = false := by simpa using e
    rw [if_neg e]; simp [List.filter, this]
theorem kept_len (l : List (Nat × ByteArray)) : (kept l).length ≤ l.length := by
  unfold kept; rw [List.length_map]; exact List.length_filter_le _ _
def KpPost (l : List ByteArray) (w : World) (e : Ending) (w' : World) : Prop := ∃ v, e = .returned v ∧ OwnE strE w.heap.size w' v l ∧ Below w.heap.size w w'
end Go.Proofs.Ytbgnckbgpiajjaa
