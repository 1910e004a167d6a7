
/-
  Package sequence: what identifies an operation; the element that it needs.
-/
import Derived.Test.YtidncnhhjfdifaaSqB
namespace Go.Proofs.Ytidncnhhjfdifaa
open Go.RowKit
set_option maxRecDepth 4000

/-- a block of three ints -/
structure Tri (w : World) (g : Nat) (a b c : Int) : Prop where
  c0 : w.cell? ⟨g, 0, none⟩ = some (.int .i64 a)
  c1 : w.cell? ⟨g, 1, none⟩ = some (.int .i64 b)
  c2 : w.cell? ⟨g, 2, none⟩ = some (.int .i64 c)
  f0 : w.frozen? ⟨g, 0, none⟩ = false
  f1 : w.frozen? ⟨g, 1, none⟩ = false
  f2 : w.frozen? ⟨g, 2, none⟩ = false
  lt : g < w.heap.size
theorem Tri.new (w : World) (a b c : Int) (t : TypeId) : Tri (w.alloc (.cells #[.int .i64 a, .int .i64 b, .int .i64 c] t (0, 0))) w.heap.size a b c := by
  refine ⟨?_, ?_, ?_, ?_, ?_, ?_, by rw [World.size_alloc]; omega⟩
  · rw [World.cell?_alloc_mark]; rfl
  · rw [World.cell?_alloc_mark]; rfl
  · rw [World.cell?_alloc_mark]; rfl
  · rw [World.frozen?_alloc_mark]; rfl
  · rw [World.frozen?_alloc_mark]; rfl
  · rw [World.frozen?_alloc_mark]; rfl
theorem Tri.up {w w' : World} {g : Nat} {a b c : Int} (h : Tri w g a b c) (hb : Below w.heap.size w w') : Tri w' g a b c :=
  ⟨(hb.cell (p := ⟨g, 0, none⟩) h.lt).trans h.c0, (hb.cell (p := ⟨g, 1, none⟩) h.lt).trans h.c1, (hb.cell (p := ⟨g, 2, none⟩) h.lt).trans h.c2,
   (hb.frozen (p := ⟨g, 0, none⟩) h.lt).trans h.f0, (hb.frozen (p := ⟨g, 1, none⟩) h.lt).trans h.f1, (hb.frozen (p := ⟨g, 2, none⟩) h.lt).trans h.f2, Nat.lt_of_lt_of_le h.lt hb.size⟩
theorem Tri.set3 {w : World} {g : Nat} {a b c : Int} (h : Tri w g a b c) (x y z : Int) : Tri (((w.setCell ⟨g, 0, none⟩ (.int .i64 x)).setCell ⟨g, 1, none⟩ (.int .i64 y)).setCell ⟨g, 2, none⟩ (.int .i64 z)) g x y z := by
  have n : ∀ i j, i ≠ j → (⟨g, i, none⟩ : Addr) ≠ ⟨g, j, none⟩ := fun i j h e => h (by cases e; rfl)
  have k1 : (w.setCell ⟨g, 0, none⟩ (.int .i64 x)).cell? ⟨g, 1, none⟩ = some (.int .i64 b) := by rw [World.cell?_setCell_other (h := n _ _ (by decide)), h.c1]
  have k2 : ((w.setCell ⟨g, 0, none⟩ (.int .i64 x)).setCell ⟨g, 1, none⟩ (.int .i64 y)).cell? ⟨g, 2, none⟩ = some (.int .i64 c) := by rw [World.cell?_setCell_other (h := n _ _ (by decide)), World.cell?_setCell_other (h := n _ _ (by decide)), h.c2]
  refine ⟨?_, ?_, ?_, ?_, ?_, ?_, ?_⟩
  · rw [World.cell?_setCell_other (h := n _ _ (by decide)), World.cell?_setCell_other (h := n _ _ (by decide)), World.cell?_setCell_same (h := h.c0)]
  · rw [World.cell?_setCell_other (h := n _ _ (by decide)), World.cell?_setCell_same (h := k1)]
  · rw [World.cell?_setCell_same (h := k2)]
  · rw [World.frozen?_setCell, World.frozen?_setCell, World.frozen?_setCell, h.f0]
  · rw [World.frozen?_setCell, World.frozen?_setCell, World.frozen?_setCell, h.f1]
  · rw [World.frozen?_setCell, World.frozen?_setCell, World.frozen?_setCell, h.f2]
  · rw [World.size_setCell, World.size_setCell, World.size_setCell]; exact h.lt

/-- a block that holds an operation -/
structure OpB (w : World) (g : Nat) (o : Sq.O) : Prop where
  c0 : w.cell? ⟨g, 0, none⟩ = some (.bool o.del)
  c1 : w.cell? ⟨g, 1, none⟩ = some (.int .i64 o.rep)
  c2 : w.cell? ⟨g, 2, none⟩ = some (.int .i64 o.cnt)
  c3 : w.cell? ⟨g, 3, none⟩ = some (.int .i64 o.arep)
  c4 : w.cell? ⟨g, 4, none⟩ = some (.int .i64 o.acnt)
  c5 : w.cell? ⟨g, 5, none⟩ = some (.string o.line)
  lt : g < w.heap.size
theorem OpB.new (w : World) (o : Sq.O) : OpB (boxO w o) w.heap.size o := by
  unfold boxO
  refine ⟨?_, ?_, ?_, ?_, ?_, ?_, by rw [World.size_alloc]; omega⟩
  all_goals rw [World.cell?_alloc_mark]; rfl
theorem OpB.up {w w' : World} {g : Nat} {o : Sq.O} (h : OpB w g o) (hb : Below w.heap.size w w') : OpB w' g o :=
  ⟨(hb.cell (p := ⟨g, 0, none⟩) h.lt).trans h.c0, (hb.cell (p := ⟨g, 1, none⟩) h.lt).trans h.c1, (hb.cell (p := ⟨g, 2, none⟩) h.lt).trans h.c2,
   (hb.cell (p := ⟨g, 3, none⟩) h.lt).trans h.c3, (hb.cell (p := ⟨g, 4, none⟩) h.lt).trans h.c4, (hb.cell (p := ⟨g, 5, none⟩) h.lt).trans h.c5, Nat.lt_of_lt_of_le h.lt hb.size⟩
/-- the operation as a load of its block gives it -/
def lvO (d : Bool) (r c ar ac : Int) (l : ByteArray) : Value := .agg #[.bool d, .int .i64 r, .int .i64 c, .int .i64 ar, .int .i64 ac, .string l]

def idS (o : Sq.O) : Nat → Value → World → Prop
  | 0, v, _ => v = .agg #[.bool o.del, .int .i64 o.rep, .int .i64 o.cnt, .int .i64 o.arep, .int .i64 o.acnt, .string o.line]
  | 1, v, _ => v = .agg #[.int .i64 o.cnt, .int .i64 o.rep]
  | 2, v, _ => v = .agg #[.bool o.del, .int .i64 o.rep, .int .i64 o.cnt, .int .i64 o.arep, .int .i64 o.acnt, .string o.line]
  | 3, v, _ => v = .int .i64 o.kd
  | 4, v, _ => v = .agg #[.int .i64 o.cnt, .int .i64 o.rep, .int .i64 o.kd]
  | _, _, _ => True
theorem idS_stab {o : Sq.O} {w w' : World} (_ : Below w.heap.size w w') : ∀ {j : Nat} {v : Value}, idS o j v w → idS o j v w'
  | 0, _, h | 1, _, h | 2, _, h | 3, _, h | 4, _, h => h
  | _ + 5, _, _ => trivial
set_option maxRecDepth 100000 in
theorem identityOf_any (o : Sq.O) (w : World) : Calls Try.prog 55 #[o.v] w (BPost (idV o.id) w) := by
  have up0 : Below w.heap.size w ((boxO w o).alloc (.cells #[.int .i64 0, .int .i64 0, .int .i64 0] 82 (0, 0))) := up_alloc (boxO_up w o) _
  have T0 : Tri ((boxO w o).alloc (.cells #[.int .i64 0, .int .i64 0, .int .i64 0] 82 (0, 0))) (w.heap.size + 1) 0 0 0 := by
    have := Tri.new (boxO w o) 0 0 0 82
    rwa [show (boxO w o).heap.size = w.heap.size + 1 from World.size_alloc _ _] at this
  have O0 : OpB ((boxO w o).alloc (.cells #[.int .i64 0, .int .i64 0, .int .i64 0] 82 (0, 0))) w.heap.size o := (OpB.new w o).up (up_alloc (Below.refl _ _) _)
  unfold Sq.O.v
  unfold boxO at up0 T0 O0
  go_enter Try.func55, Try.ntmps55
  go_wp2_with fail
  generalize hW : (w.alloc (.cells #[.bool o.del, .int .i64 o.rep, .int .i64 o.cnt, .int .i64 o.arep, .int .i64 o.acnt, .string o.line] 53 (0, 0))).alloc (.cells #[.int .i64 0, .int .i64 0, .int .i64 0] 82 (0, 0)) = W at up0 T0 O0 ⊢
  refine region_facts (by kernel_rfl) (by kernel_rfl) (fun x => { tmps := #[.agg #[.bool o.del, .int .i64 o.rep, .int .i64 o.cnt, .int .i64 o.arep, .int .i64 o.acnt, .string o.line], .pointer (some ⟨w.heap.size, 0, none⟩), .pointer (some ⟨w.heap.size + 1, 0, none⟩), x 0, x 1, x 2, x 3, x 4], defers := [] }) (fun _ => undef) rfl
    (fun w' => Below W.heap.size W w') (idS o) (Below.refl _ _).drew ?_ (by simp)
  rename_i KK hKK
  refine steps_cons ?_ (steps_cons ?_ (steps_cons ?_ (steps_cons ?_ (steps_cons ?_ (steps_last ?_)))))
  · refine step_mk [] rfl rfl (fun _ _ => rfl) ?_
    intro x w1 hC hd K hK
    obtain ⟨c0, c1, c2, c3, c4, c5, _⟩ := O0.up hC
    dsimp only at hK ⊢
    go_simp
    exact hK _ _ hC rfl (fun _ _ _ h => h)
  · refine step_mk [0] rfl rfl (fun _ _ => rfl) ?_
    intro x w1 hC hd K hK
    have e0 : x 0 = _ := hd 0 (by simp)
    dsimp only at hK ⊢
    simp only [e0] at hK ⊢
    go_simp
    refine (elementOf_any o _).mono ?_
    rintro e w2 ⟨rfl, hb⟩
    exact hK _ _ (up_call hC hb) rfl (fun j u _ h => idS_stab hb h)
  · refine step_mk [] rfl rfl (fun _ _ => rfl) ?_
    intro x w1 hC hd K hK
    obtain ⟨c0, c1, c2, c3, c4, c5, _⟩ := O0.up hC
    dsimp only at hK ⊢
    go_simp
    exact hK _ _ hC rfl (fun _ _ _ h => h)
  · refine step_mk [2, 1] rfl rfl (fun _ _ => rfl) ?_
    intro x w1 hC hd K hK
    have e2 : x 2 = _ := hd 2 (by simp)
    dsimp only at hK ⊢
    simp only [e2] at hK ⊢
    go_simp
    refine (kindOf_any o _).mono ?_
    rintro e w2 ⟨rfl, hb⟩
    exact hK _ _ (up_call hC hb) rfl (fun j u _ h => idS_stab hb h)
  · refine step_mk [1, 3] rfl rfl (fun _ _ => rfl) ?_
    intro x w1 hC hd K hK
    have e1 : x 1 = _ := hd 1 (by simp)
    have e3 : x 3 = _ := hd 3 (by simp)
    dsimp only at hK ⊢
    simp only [e1, e3] at hK ⊢
    go_simp
    exact hK _ _ hC rfl (fun _ _ _ h => h)
  · refine tail_mk rfl ?_
    intro x w1 hC hd K hK
    have e4 : x 4 = _ := hd 4 (by omega)
    have T1 := T0.up hC
    obtain ⟨c0, c1, c2, f0, f1, f2, l0⟩ := T0.up hC
    dsimp only at hK ⊢
    simp only [e4] at hK ⊢
    go_simp
    refine hK undef _ ?_
    clear hK
    refine hKK _ _ ?_
    clear hKK
    have T2 := T1.set3 o.cnt o.rep o.kd
    obtain ⟨d0, d1, d2, _, _, _, _⟩ := T2
    go_wp2_with fail
    refine bodyPost_ret (v := idV o.id) (by simp [results, Try.results55, go_sem, d0, d1, d2, idV, Sq.O.id, Sq.O.el]) rfl ⟨rfl, ?_⟩
    exact (((up_call up0 hC).setCell (p := ⟨w.heap.size + 1, 0, none⟩) (by simp) _).setCell (p := ⟨w.heap.size + 1, 1, none⟩) (by simp) _).setCell (p := ⟨w.heap.size + 1, 2, none⟩) (by simp) _
set_option maxRecDepth 100000 in
theorem neededBy_any (o : Sq.O) (w : World) : Calls Try.prog 61 #[o.v] w (BPost (elV (if o.del then o.el else o.pr)) w) := by
  have up0 : Below w.heap.size w ((boxO w o).alloc (.cells #[.int .i64 0, .int .i64 0] 77 (0, 0))) := up_alloc (boxO_up w o) _
  have T0 : Flt ((boxO w o).alloc (.cells #[.int .i64 0, .int .i64 0] 77 (0, 0))) (w.heap.size + 1) 0 0 := by
    have := Flt.new (boxO w o) 0 0 77
    rwa [show (boxO w o).heap.size = w.heap.size + 1 from World.size_alloc _ _] at this
  obtain ⟨d, r, c, ar, ac, l⟩ := o
  unfold Sq.O.v
  unfold boxO at up0 T0
  dsimp only at up0 T0
  cases d
  · rw [if_neg (by simp)]
    go_enter Try.func61, Try.ntmps61
    go_wp2_with (go_at_call 53; refine (show Calls Try.prog 53 _ _ (BPost (.agg #[.int .i64 ac, .int .i64 ar]) _) from predecessorOf_any ⟨false, r, c, ar, ac, l⟩ _).mono ?_; rintro e w2 ⟨rfl, hb⟩; have T1 := T0.up hb; obtain ⟨c0, c1, f0, f1, _⟩ := T0.up hb)
    have T2 := T1.set2 ac ar
    obtain ⟨d0, d1, _, _, _⟩ := T2
    refine bodyPost_ret (v := elV (ac, ar)) (by simp [results, Try.results61, go_sem, d0, d1, elV]) rfl ⟨rfl, ?_⟩
    exact ((up_call up0 hb).setCell (p := ⟨w.heap.size + 1, 0, none⟩) (by simp) _).setCell (p := ⟨w.heap.size + 1, 1, none⟩) (by simp) _
  · rw [if_pos rfl]
    go_enter Try.func61, Try.ntmps61
    go_wp2_with (go_at_call 52; refine (show Calls Try.prog 52 _ _ (BPost (.agg #[.int .i64 c, .int .i64 r]) _) from elementOf_any ⟨true, r, c, ar, ac, l⟩ _).mono ?_; rintro e w2 ⟨rfl, hb⟩; have T1 := T0.up hb; obtain ⟨c0, c1, f0, f1, _⟩ := T0.up hb)
    have T2 := T1.set2 c r
    obtain ⟨d0, d1, _, _, _⟩ := T2
    refine bodyPost_ret (v := elV (c, r)) (by simp [results, Try.results61, go_sem, d0, d1, elV]) rfl ⟨rfl, ?_⟩
    exact ((up_call up0 hb).setCell (p := ⟨w.heap.size + 1, 0, none⟩) (by simp) _).setCell (p := ⟨w.heap.size + 1, 1, none⟩) (by simp) _
end Go.Proofs.Ytidncnhhjfdifaa
