
/-
  The program's diff.Script, walked, and the function that it hands to eachKept.
-/
import Derived.Test.YtcheggdfcdokiaaDoorDfG
import Derived.Test.YtcheggdfcdokiaaDoorDfC
import Derived.Laws.EntriesVeiled
namespace Go.Proofs.YtcheggdfcdokiaaDoor
open Go.RowKit
set_option maxRecDepth 4000

theorem SI.put {f1 f2 g1 g2 pg : Nat} {Va Vb : Value} {B C fa fb : Nat} {qs : List Q} {w : World} (h : SI f1 f2 g1 g2 pg Va Vb B C fa fb qs w) (i j : Int) (i' j' : Nat) (ei : i = (i' : Int)) (ej : j = (j' : Int))
    (d1 : f1 < B) (d2 : f2 < B) (n1 : f1 ≠ pg) (n2 : f2 ≠ pg) (n3 : f1 ≠ f2) (n4 : g1 ≠ f1) (n5 : g1 ≠ f2) (n6 : g2 ≠ f1) (n7 : g2 ≠ f2) :
    SI f1 f2 g1 g2 pg Va Vb B C i' j' qs ((w.setCell ⟨f1, 0, none⟩ (.int .i64 i)).setCell ⟨f2, 0, none⟩ (.int .i64 j)) := by
  subst ei ej
  have hB := h.hB
  obtain ⟨v, hv⟩ := h.pb
  have ne : ∀ x y : Nat, x ≠ y → (⟨x, 0, none⟩ : Addr) ≠ ⟨y, 0, none⟩ := fun x y h e => h (by cases e; rfl)
  refine ⟨?_, ?_, by rw [World.frozen?_setCell, World.frozen?_setCell, h.z1], by rw [World.frozen?_setCell, World.frozen?_setCell, h.z2], ?_, ?_, ⟨v, (hv.out f1 (by omega) n1 _).out f2 (by omega) n2 _⟩, h.hB, by rw [World.size_setCell, World.size_setCell]; exact h.hC⟩
  · rw [World.cell?_setCell_other (h := ne _ _ n3.symm)]; exact World.cell?_setCell_same _ _ _ h.c1
  · exact World.cell?_setCell_same _ _ _ (by rw [World.cell?_setCell_other (h := ne _ _ n3), h.c2])
  · rw [World.cell?_setCell_other (h := ne _ _ n5.symm), World.cell?_setCell_other (h := ne _ _ n4.symm), h.ca]
  · rw [World.cell?_setCell_other (h := ne _ _ n7.symm), World.cell?_setCell_other (h := ne _ _ n6.symm), h.cb]

/-- a block of one cell -/
structure One (w : World) (g : Nat) (v : Value) : Prop where
  c : w.cell? ⟨g, 0, none⟩ = some v
  f : w.frozen? ⟨g, 0, none⟩ = false
theorem One.new (w : World) (v : Value) (t : TypeId) (g : Nat) (hg : g = w.heap.size) : One (w.alloc (.cells #[v] t (0, 0))) g v := by
  subst hg
  exact ⟨by rw [World.cell?_alloc_mark]; rfl, by rw [World.frozen?_alloc_mark]; rfl⟩
theorem One.alloc {w : World} {g : Nat} {v : Value} (h : One w g v) (o : Obj) : One (w.alloc o) g v := ⟨cell_up h.c o, frozen_up h.c h.f o⟩
theorem One.up {w w' : World} {g : Nat} {v : Value} (h : One w g v) (hb : Below w.heap.size w w') : One w' g v :=
  ⟨by rw [hb.cell (p := ⟨g, 0, none⟩) (cell_block_lt h.c), h.c], by rw [hb.frozen (p := ⟨g, 0, none⟩) (cell_block_lt h.c), h.f]⟩
theorem One.same {w w' : World} {g : Nat} {v : Value} (h : One w g v) (hb : w'.heap[g]? = w.heap[g]?) : One w' g v :=
  ⟨by rw [World.cell?_of_block (a := ⟨g, 0, none⟩) hb, h.c], by rw [World.frozen?_of_block (a := ⟨g, 0, none⟩) hb, h.f]⟩
theorem One.drewN {w : World} {g : Nat} {v : Value} (h : One w g v) (n : Nat) : One (w.drewN n) g v := ⟨h.c, h.f⟩
theorem One.lt {w : World} {g : Nat} {v : Value} (h : One w g v) : g < w.heap.size := cell_block_lt h.c

/-- the blocks that the walk has laid differ -/
structure Dst (A B f1 f2 g1 g2 pg gk gf gr : Nat) : Prop where
  h1 : A ≤ f1 ∧ A ≤ f2 ∧ A ≤ pg
  h2 : f1 < B ∧ f2 < B ∧ g1 < B ∧ g2 < B ∧ pg < B ∧ gk < B ∧ gf < B ∧ gr < B
  h3 : f1 ≠ pg ∧ f2 ≠ pg ∧ g1 ≠ pg ∧ g2 ≠ pg ∧ f1 ≠ f2 ∧ g1 ≠ f1 ∧ g1 ≠ f2 ∧ g2 ≠ f1 ∧ g2 ≠ f2
  h4 : gk ≠ pg ∧ gk ≠ f1 ∧ gk ≠ f2 ∧ gf ≠ pg ∧ gf ≠ f1 ∧ gf ≠ f2 ∧ gr ≠ pg ∧ gr ≠ f1 ∧ gr ≠ f2
theorem Flt.put {w : World} {g g' : Nat} {c i : Int} (h : Flt w g c i) (hg : g' ≠ g) (u : Value) : Flt (w.setCell ⟨g', 0, none⟩ u) g c i := by
  have n : ∀ k, (⟨g', 0, none⟩ : Addr) ≠ ⟨g, k, none⟩ := fun k e => hg (by cases e; rfl)
  exact ⟨by rw [World.cell?_setCell_other (h := n _), h.c0], by rw [World.cell?_setCell_other (h := n _), h.c1], by rw [World.frozen?_setCell, h.f0], by rw [World.frozen?_setCell, h.f1], by rw [World.size_setCell]; exact h.lt⟩
/-- the two result cells, written -/
theorem put_both {w : World} {g g' : Nat} {u v : Value} {c i : Int} (h : Flt w g c i) (o : One w g' u) (hg : g' ≠ g) (x y : Int) :
    (((w.setCell ⟨g', 0, none⟩ v).setCell ⟨g, 0, none⟩ (.int .i64 x)).setCell ⟨g, 1, none⟩ (.int .i64 y)).cell? ⟨g', 0, none⟩ = some v ∧
    (((w.setCell ⟨g', 0, none⟩ v).setCell ⟨g, 0, none⟩ (.int .i64 x)).setCell ⟨g, 1, none⟩ (.int .i64 y)).cell? ⟨g, 0, none⟩ = some (.int .i64 x) ∧
    (((w.setCell ⟨g', 0, none⟩ v).setCell ⟨g, 0, none⟩ (.int .i64 x)).setCell ⟨g, 1, none⟩ (.int .i64 y)).cell? ⟨g, 1, none⟩ = some (.int .i64 y) := by
  have n : ∀ k, (⟨g, k, none⟩ : Addr) ≠ ⟨g', 0, none⟩ := fun k e => hg (by cases e; rfl)
  obtain ⟨d0, d1, -, -, -⟩ := (h.put hg v).set2 x y
  exact ⟨by rw [World.cell?_setCell_other (h := n _), World.cell?_setCell_other (h := n _), World.cell?_setCell_same (h := o.c)], d0, d1⟩

/-- what Script returns -/
noncomputable def sD (a b : List ByteArray) : List (Dif.Hk ByteArray) := if okD a b then Dif.pof (Dif.al a b) else []
def ScPost (a b : List ByteArray) (w : World) (e : Ending) (w' : World) : Prop :=
  ∃ p cap, e = .returned (.tuple #[.agg #[.slice p (sD a b).length cap], .agg #[.int .i64 (tC a b), .int .i64 (tI a b)]]) ∧ Ptc w' p (sD a b) ∧ (p = none → cap = 0) ∧ (sD a b).length ≤ cap ∧ Below w.heap.size w w'

end Go.Proofs.YtcheggdfcdokiaaDoor
