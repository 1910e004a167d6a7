
/-
  The program's diff.Script, walked, and the function that it hands to eachKept.
-/
import Derived.Test.YtkfloglpihbdjaaDfG
import Derived.Test.YtkfloglpihbdjaaDfC
import Derived.Laws.EntriesVeiled
namespace Go.Proofs.Ytkfloglpihbdjaa
open Go.RowKit
set_option maxRecDepth 4000

theorem SI.put {f1 f2 g1 g2 pg : Nat} {Va Vb : Value} {B C fa fb : Nat} {qs : List Q} {w : World} (h : SI f1 f2 g1 g2 pg Va Vb B C fa fb qs w) (i j : Int) (i' j' : Nat) (ei : i = (i' : Int)) (ej : j = (j' : Int))
    (d1 : f1 < B) (d2 : f2 < B) (n1 : f1 ≠ pg) (n2 : f2 ≠ pg) (n3 : f1 ≠ f2) (n4 : g1 ≠ f1) (n5 : g1 ≠ f2) (n6 : g2 ≠ f1) (n7 : g2 ≠ f2) :
    SI f1 f2 g1 g2 pg Va Vb B C i' j' qs ((w.setCell ⟨f1, 0, none⟩ (.int .i64 i)).setCell ⟨f2, 0, none⟩ (.int .i64 j)) := by
  subst ei ej
  have hB := h.hB
  obtain ⟨v, hv⟩ := h.pb
  have ne : ∀ x y : Nat, x ≠ y → (⟨x, 0, none⟩ : Addr) ≠ ⟨y, 0, none⟩ := fun x y h e => h (by cases e; rfl)
  refine ⟨?_, ?_, by rw [World.frozen?_setCell, World.frozen?_setCell, h.z1], by rw [World.frozen?_setCell, World.frozen?_setCell, h.z2], ?_, ?_, ⟨v, (hv.out f1 (by omega) n1 _).out f2 (by omega) n2 _⟩, h.hB, by rw [World.size_setCell, World.size_setCell]; exact h.hC⟩
  · rw [World.cell?_setCell_other (h := ne _ _ n3.symm)]; exact World.cell?_setCell_same _ _ _ h.c1
  · exact World.cell?_setCell_same _ _ _ (by rw [World.cell?_setCell_other (h := ne _ _ n3), h.c2])
  · rw [World.cell?_setCell_other (h := ne _ _ n5.symm), World.cell?_setCell_other (h := ne _ _ n4.symm), h.ca]
  · rw [World.cell?_setCell_other (h := ne _ _ n7.symm), World.cell?_setCell_other (h := ne _ _ n6.symm), h.cb]

set_option maxHeartbeats 2000000 in
theorem keep2_any (f1 f2 g1 g2 pg gk B C fa fb i j : Nat) (p q : Option Addr) (a b : List ByteArray) (cap cap' : Nat) (qs : List Q) (w : World)
    (hI : SI f1 f2 g1 g2 pg (.slice p a.length cap) (.slice q b.length cap') B C fa fb qs w) (hk : w.cell? ⟨gk, 0, none⟩ = some (.func (.func 34) #[] #[.pointer (some ⟨f1, 0, none⟩), .pointer (some ⟨f2, 0, none⟩), .pointer (some ⟨g1, 0, none⟩), .pointer (some ⟨g2, 0, none⟩), .pointer (some ⟨pg, 0, none⟩)]))
    (hp : Sts w p a) (hq : Sts w q b) (hc : p = none → cap = 0) (hc' : q = none → cap' = 0) (hl : a.length ≤ cap) (hl' : b.length ≤ cap')
    (hfi : fa ≤ i) (hi : i < a.length) (hfj : fb ≤ j) (hj : j < b.length) (la : a.length ≤ 1000) (lb : b.length ≤ 1000) (lq : qs.length ≤ 1000)
    (d1 : f1 < B) (d2 : f2 < B) (d3 : g1 < B) (d4 : g2 < B) (d5 : pg < B) (n1 : f1 ≠ pg) (n2 : f2 ≠ pg) (n3 : g1 ≠ pg) (n4 : g2 ≠ pg) (m3 : f1 ≠ f2) (m4 : g1 ≠ f1) (m5 : g1 ≠ f2) (m6 : g2 ≠ f1) (m7 : g2 ≠ f2) :
    Calls Try.prog 36 #[.int .i64 (i : Int), .int .i64 (j : Int), .pointer (some ⟨gk, 0, none⟩), .pointer (some ⟨f1, 0, none⟩), .pointer (some ⟨f2, 0, none⟩)] w
      fun e w2 => e = .returned (.tuple #[]) ∧ ∃ qs', SI f1 f2 g1 g2 pg (.slice p a.length cap) (.slice q b.length cap') B C (i + 1) (j + 1) qs' w2 ∧ qs'.map (·.1) = qs.map (·.1) ++ pend a b fa fb i j ∧
        (w2.os = w.os ∧ w2.tape = w.tape ∧ w2.output = w.output ∧ w.heap.size ≤ w2.heap.size) ∧ ∀ k, k < C → k ≠ pg → k ≠ f1 → k ≠ f2 → w2.heap[k]? = w.heap[k]? := by
  have CH := Lib.hid (changed_any f1 f2 g1 g2 pg B C fa fb i j p q a b cap cap' qs w hI hp hq hc hc' hl hl' hfi (Nat.le_of_lt hi) hfj (Nat.le_of_lt hj) la lb lq d1 d2 d3 d4 d5 n1 n2 n3 n4)
  have wi : IntKind.i64.wrap ((i : Int) + 1) = (i : Int) + 1 := IntWalk.i64_in _ (by omega)
  have wj : IntKind.i64.wrap ((j : Int) + 1) = (j : Int) + 1 := IntWalk.i64_in _ (by omega)
  clear hI hp hq hc hc'
  go_enter Try.func36, Try.ntmps36
  go_wp2_with fail
  refine CH.out.mono ?_
  rintro e w2 ⟨rfl, qs', hI2, hm, O⟩
  have R := Lib.hid (And.intro (hI2.put ((i : Int) + 1) ((j : Int) + 1) (i + 1) (j + 1) (by omega) (by omega) d1 d2 n1 n2 m3 m4 m5 m6 m7) (And.intro hm O))
  have c1 := hI2.c1
  have c2 := hI2.c2
  have z1 := hI2.z1
  have z2 := hI2.z2
  clear hI2 hm O hk
  go_wp2_with fail
  go_returns
  refine ⟨rfl, qs', R.out.1, R.out.2.1, ⟨R.out.2.2.os, R.out.2.2.tape, R.out.2.2.output, by rw [World.size_setCell, World.size_setCell]; exact R.out.2.2.size⟩, fun k h1 h2 h3 h4 => ?_⟩
  rw [Below.heap_setCell _ _ _ _ (by exact h4), Below.heap_setCell _ _ _ _ (by exact h3), R.out.2.2.block k h1 h2]

/-- a block of one cell -/
structure One (w : World) (g : Nat) (v : Value) : Prop where
  c : w.cell? ⟨g, 0, none⟩ = some v
  f : w.frozen? ⟨g, 0, none⟩ = false
theorem One.new (w : World) (v : Value) (t : TypeId) (g : Nat) (hg : g = w.heap.size) : One (w.alloc (.cells #[v] t (0, 0))) g v := by
  subst hg
  exact ⟨by rw [World.cell?_alloc_mark]; rfl, by rw [World.frozen?_alloc_mark]; rfl⟩
theorem One.alloc {w : World} {g : Nat} {v : Value} (h : One w g v) (o : Obj) : One (w.alloc o) g v := ⟨cell_up h.c o, frozen_up h.c h.f o⟩
theorem One.up {w w' : World} {g : Nat} {v : Value} (h : One w g v) (hb : Below w.heap.size w w') : One w' g v :=
  ⟨by rw [hb.cell (p := ⟨g, 0, none⟩) (cell_block_lt h.c), h.c], by rw [hb.frozen (p := ⟨g, 0, none⟩) (cell_block_lt h.c), h.f]⟩
theorem One.same {w w' : World} {g : Nat} {v : Value} (h : One w g v) (hb : w'.heap[g]? = w.heap[g]?) : One w' g v :=
  ⟨by rw [World.cell?_of_block (a := ⟨g, 0, none⟩) hb, h.c], by rw [World.frozen?_of_block (a := ⟨g, 0, none⟩) hb, h.f]⟩
theorem One.drewN {w : World} {g : Nat} {v : Value} (h : One w g v) (n : Nat) : One (w.drewN n) g v := ⟨h.c, h.f⟩
theorem One.lt {w : World} {g : Nat} {v : Value} (h : One w g v) : g < w.heap.size := cell_block_lt h.c

/-- what holds between two kept lines -/
structure KI (f1 f2 g1 g2 pg gk gf gr : Nat) (Va Vb : Value) (a b : List ByteArray) (B C i j : Nat) (out : List (Nat × ByteArray)) (w : World) : Prop where
  st : ∃ fa fb qs, Pm a b fa fb i j (qs.map (·.1)) out ∧ SI f1 f2 g1 g2 pg Va Vb B C fa fb qs w
  k : One w gk (.func (.func 34) #[] #[.pointer (some ⟨f1, 0, none⟩), .pointer (some ⟨f2, 0, none⟩), .pointer (some ⟨g1, 0, none⟩), .pointer (some ⟨g2, 0, none⟩), .pointer (some ⟨pg, 0, none⟩)])
  f : Flt w gf 0 0
  r : One w gr (.slice none 0 0)
/-- the blocks that the walk has laid differ -/
structure Dst (A B f1 f2 g1 g2 pg gk gf gr : Nat) : Prop where
  h1 : A ≤ f1 ∧ A ≤ f2 ∧ A ≤ pg
  h2 : f1 < B ∧ f2 < B ∧ g1 < B ∧ g2 < B ∧ pg < B ∧ gk < B ∧ gf < B ∧ gr < B
  h3 : f1 ≠ pg ∧ f2 ≠ pg ∧ g1 ≠ pg ∧ g2 ≠ pg ∧ f1 ≠ f2 ∧ g1 ≠ f1 ∧ g1 ≠ f2 ∧ g2 ≠ f1 ∧ g2 ≠ f2
  h4 : gk ≠ pg ∧ gk ≠ f1 ∧ gk ≠ f2 ∧ gf ≠ pg ∧ gf ≠ f1 ∧ gf ≠ f2 ∧ gr ≠ pg ∧ gr ≠ f1 ∧ gr ≠ f2
set_option maxHeartbeats 4000000 in
theorem keeps_script {f1 f2 g1 g2 pg gk gf gr : Nat} {p q : Option Addr} {a b : List ByteArray} {cap cap' : Nat} {w0 w : World} (hp : Sts w0 p a) (hq : Sts w0 q b) (hc : p = none → cap = 0) (hc' : q = none → cap' = 0) (hl : a.length ≤ cap) (hl' : b.length ≤ cap')
    (la : a.length ≤ 120) (lb : b.length ≤ 120) (D : Dst w0.heap.size w.heap.size f1 f2 g1 g2 pg gk gf gr)
    (o1 : One w f1 (.int .i64 0)) (o2 : One w f2 (.int .i64 0)) (o3 : One w g1 (.slice p a.length cap)) (o4 : One w g2 (.slice q b.length cap')) (o5 : One w pg (.slice none 0 0)) (o6 : One w gk (.func (.func 34) #[] #[.pointer (some ⟨f1, 0, none⟩), .pointer (some ⟨f2, 0, none⟩), .pointer (some ⟨g1, 0, none⟩), .pointer (some ⟨g2, 0, none⟩), .pointer (some ⟨pg, 0, none⟩)])) (o7 : Flt w gf 0 0) (o8 : One w gr (.slice none 0 0)) :
    Keeps 36 #[.pointer (some ⟨gk, 0, none⟩), .pointer (some ⟨f1, 0, none⟩), .pointer (some ⟨f2, 0, none⟩)] a b w0.heap.size w.heap.size w0 w (fun C i j out w' => KI f1 f2 g1 g2 pg gk gf gr (.slice p a.length cap) (.slice q b.length cap') a b w.heap.size C i j out w') := by
  obtain ⟨h1, h2, h3, h4⟩ := D
  refine ⟨fun w1 hb1 => ⟨⟨0, 0, [], Pm.start a b, (o1.up hb1).c, (o2.up hb1).c, (o1.up hb1).f, (o2.up hb1).f, (o3.up hb1).c, (o4.up hb1).c, ⟨_, PBs.start _ _ _ (o5.up hb1).c (o5.up hb1).f (by have := hb1.size; omega) (Nat.le_refl _)⟩, hb1.size, Nat.le_refl _⟩, o6.up hb1, o7.up hb1, o8.up hb1⟩,
    fun C i j out w1 n h => ?_, fun C i j out w1 hi h _ => ?_, fun C i j out w1 hj h _ => ?_, fun C i j out w1 hi hj h hA he hBC hC hbel => ?_⟩
  · obtain ⟨⟨fa, fb, qs, hP, hS⟩, k1, k2, k3⟩ := h
    exact ⟨⟨fa, fb, qs, hP, hS.drewN n⟩, k1.drewN n, k2.drewN n, k3.drewN n⟩
  · obtain ⟨⟨fa, fb, qs, hP, hS⟩, k1, k2, k3⟩ := h
    exact ⟨⟨fa, fb, qs, hP.del hi, hS⟩, k1, k2, k3⟩
  · obtain ⟨⟨fa, fb, qs, hP, hS⟩, k1, k2, k3⟩ := h
    exact ⟨⟨fa, fb, qs, hP.ins hj, hS⟩, k1, k2, k3⟩
  · obtain ⟨⟨fa, fb, qs, hP, hS⟩, k1, k2, k3⟩ := h
    have hq1 := hP.len
    have hq2 := hP.hi
    rw [List.length_map] at hq1
    refine (keep2_any f1 f2 g1 g2 pg gk w.heap.size C fa fb i j p q a b cap cap' qs w1 hS k1.c (hp.mono hbel) (hq.mono hbel) hc hc' hl hl' hP.hi hi hP.hj hj (by omega) (by omega) (by omega)
      (by omega) (by omega) (by omega) (by omega) (by omega) (by omega) (by omega) (by omega) (by omega) (by omega) (by omega) (by omega) (by omega) (by omega)).mono ?_
    rintro e w2 ⟨rfl, qs', hS2, hm, ⟨e1, e2, e3, e4⟩, hO⟩
    have hP2 := hP.keep a[i]
    rw [← hm] at hP2
    refine ⟨rfl, ⟨⟨_, _, qs', hP2, hS2⟩, k1.same (hO gk (by omega) (by omega) (by omega) (by omega)), k2.same (hO gf (by omega) (by omega) (by omega) (by omega)), k3.same (hO gr (by omega) (by omega) (by omega) (by omega))⟩, ⟨e1, e2, e3, e4, fun k hk => hO k (by omega) (by omega) (by omega) (by omega)⟩, fun k hk1 hk2 => hO k hk2 (by omega) (by omega) (by omega)⟩

theorem Flt.put {w : World} {g g' : Nat} {c i : Int} (h : Flt w g c i) (hg : g' ≠ g) (u : Value) : Flt (w.setCell ⟨g', 0, none⟩ u) g c i := by
  have n : ∀ k, (⟨g', 0, none⟩ : Addr) ≠ ⟨g, k, none⟩ := fun k e => hg (by cases e; rfl)
  exact ⟨by rw [World.cell?_setCell_other (h := n _), h.c0], by rw [World.cell?_setCell_other (h := n _), h.c1], by rw [World.frozen?_setCell, h.f0], by rw [World.frozen?_setCell, h.f1], by rw [World.size_setCell]; exact h.lt⟩
/-- the two result cells, written -/
theorem put_both {w : World} {g g' : Nat} {u v : Value} {c i : Int} (h : Flt w g c i) (o : One w g' u) (hg : g' ≠ g) (x y : Int) :
    (((w.setCell ⟨g', 0, none⟩ v).setCell ⟨g, 0, none⟩ (.int .i64 x)).setCell ⟨g, 1, none⟩ (.int .i64 y)).cell? ⟨g', 0, none⟩ = some v ∧
    (((w.setCell ⟨g', 0, none⟩ v).setCell ⟨g, 0, none⟩ (.int .i64 x)).setCell ⟨g, 1, none⟩ (.int .i64 y)).cell? ⟨g, 0, none⟩ = some (.int .i64 x) ∧
    (((w.setCell ⟨g', 0, none⟩ v).setCell ⟨g, 0, none⟩ (.int .i64 x)).setCell ⟨g, 1, none⟩ (.int .i64 y)).cell? ⟨g, 1, none⟩ = some (.int .i64 y) := by
  have n : ∀ k, (⟨g, k, none⟩ : Addr) ≠ ⟨g', 0, none⟩ := fun k e => hg (by cases e; rfl)
  obtain ⟨d0, d1, -, -, -⟩ := (h.put hg v).set2 x y
  exact ⟨by rw [World.cell?_setCell_other (h := n _), World.cell?_setCell_other (h := n _), World.cell?_setCell_same (h := o.c)], d0, d1⟩

/-- what Script returns -/
noncomputable def sD (a b : List ByteArray) : List (Dif.Hk ByteArray) := if okD a b then Dif.pof (Dif.al a b) else []
def ScPost (a b : List ByteArray) (w : World) (e : Ending) (w' : World) : Prop :=
  ∃ p cap, e = .returned (.tuple #[.agg #[.slice p (sD a b).length cap], .agg #[.int .i64 (tC a b), .int .i64 (tI a b)]]) ∧ Ptc w' p (sD a b) ∧ (p = none → cap = 0) ∧ (sD a b).length ≤ cap ∧ Below w.heap.size w w'

set_option maxHeartbeats 4000000 in
theorem script_any (p q : Option Addr) (a b : List ByteArray) (n m cap cap' : Nat) (w : World) (hn : n = a.length) (hm : m = b.length) (hp : Sts w p a) (hq : Sts w q b) (hc : p = none → cap = 0) (hc' : q = none → cap' = 0) (hl : a.length ≤ cap) (hl' : b.length ≤ cap') :
    Calls Try.prog 22 #[.slice p n cap, .slice q m cap'] w (ScPost a b w) := by
  subst hn hm
  have hmf : ∀ (fn : Fn) (first cap : Array Value) (w : World), (Instr.makeFunc fn first cap).run Try.prog w = .ok (.func fn first cap) w := fun _ _ _ _ => rfl
  have HP := Lib.hid hp
  have HQ := Lib.hid hq
  clear hp hq
  have up0 : Below w.heap.size w ((((w.alloc (.cells #[.slice p a.length cap] 22 (0, 0))).alloc (.cells #[.slice q b.length cap'] 22 (0, 0))).alloc (.cells #[.slice none 0 0] 48 (0, 0))).alloc (.cells #[.int .i64 0, .int .i64 0] 24 (0, 0))) := up_alloc (up_alloc (up_alloc (up_alloc (Below.refl _ _) _) _) _) _
  go_enter Try.func22, Try.ntmps22
  go_wp2_with fail
  refine (valid2_any _ _ a b _ _ _ _ _ rfl rfl (HP.out.mono up0) (HQ.out.mono up0)).mono ?_
  rintro e w1 ⟨rfl, hb1⟩
  have hz1 := hb1.size
  simp only [World.size_alloc] at hz1
  have u1 := up_call up0 hb1
  have FA : Flt w1 (w.heap.size + 1 + 1 + 1) 0 0 := by
    have := (Flt.new (((w.alloc (.cells #[.slice p a.length cap] 22 (0, 0))).alloc (.cells #[.slice q b.length cap'] 22 (0, 0))).alloc (.cells #[.slice none 0 0] 48 (0, 0))) 0 0 24).up hb1
    simpa using this
  have oA : One w1 w.heap.size (.slice p a.length cap) := ((((One.new w (.slice p a.length cap) 22 w.heap.size rfl).alloc _).alloc _).alloc _).up hb1
  have oB : One w1 (w.heap.size + 1) (.slice q b.length cap') := (((One.new _ (.slice q b.length cap') 22 (w.heap.size + 1) (by simp)).alloc _).alloc _).up hb1
  have oR : One w1 (w.heap.size + 1 + 1) (.slice none 0 0) := ((One.new _ (.slice none 0 0) 48 (w.heap.size + 1 + 1) (by simp)).alloc _).up hb1
  have HA := Lib.hid FA
  have ca := oA.c
  have cb := oB.c
  have cr := oR.c
  have fr := oR.f
  have OR := Lib.hid (And.intro oA (And.intro oB oR))
  clear oA oB oR
  by_cases h : okD a b
  · rw [(tC_ok h).1, (tC_ok h).2]
    have E : Hid (sD a b = Dif.pof (Dif.al a b) ∧ tC a b = 0 ∧ tI a b = 0) := Lib.hid ⟨if_pos h, tC_ok h⟩
    have l1 := len_ok h.1
    have l2 := len_ok h.2
    clear h
    obtain ⟨a0, a1, a2, a3, a4⟩ := FA
    have Z : Hid (One (((((w1.alloc (.cells #[.int .i64 0, .int .i64 0] 24 (0, 0))).alloc (.cells #[.slice none 0 0] 48 (0, 0))).alloc (.cells #[.int .i64 0] 3 (0, 0))).alloc (.cells #[.int .i64 0] 3 (0, 0))).alloc (.cells #[(.func (.func 34) #[] #[.pointer (some ⟨w1.heap.size + 1 + 1, 0, none⟩), .pointer (some ⟨w1.heap.size + 1 + 1 + 1, 0, none⟩), .pointer (some ⟨w.heap.size, 0, none⟩), .pointer (some ⟨w.heap.size + 1, 0, none⟩), .pointer (some ⟨w1.heap.size + 1, 0, none⟩)])] 64 (0, 0))) (w1.heap.size + 1 + 1) (.int .i64 0) ∧ One (((((w1.alloc (.cells #[.int .i64 0, .int .i64 0] 24 (0, 0))).alloc (.cells #[.slice none 0 0] 48 (0, 0))).alloc (.cells #[.int .i64 0] 3 (0, 0))).alloc (.cells #[.int .i64 0] 3 (0, 0))).alloc (.cells #[(.func (.func 34) #[] #[.pointer (some ⟨w1.heap.size + 1 + 1, 0, none⟩), .pointer (some ⟨w1.heap.size + 1 + 1 + 1, 0, none⟩), .pointer (some ⟨w.heap.size, 0, none⟩), .pointer (some ⟨w.heap.size + 1, 0, none⟩), .pointer (some ⟨w1.heap.size + 1, 0, none⟩)])] 64 (0, 0))) (w1.heap.size + 1 + 1 + 1) (.int .i64 0) ∧ One (((((w1.alloc (.cells #[.int .i64 0, .int .i64 0] 24 (0, 0))).alloc (.cells #[.slice none 0 0] 48 (0, 0))).alloc (.cells #[.int .i64 0] 3 (0, 0))).alloc (.cells #[.int .i64 0] 3 (0, 0))).alloc (.cells #[(.func (.func 34) #[] #[.pointer (some ⟨w1.heap.size + 1 + 1, 0, none⟩), .pointer (some ⟨w1.heap.size + 1 + 1 + 1, 0, none⟩), .pointer (some ⟨w.heap.size, 0, none⟩), .pointer (some ⟨w.heap.size + 1, 0, none⟩), .pointer (some ⟨w1.heap.size + 1, 0, none⟩)])] 64 (0, 0))) w.heap.size (.slice p a.length cap) ∧ One (((((w1.alloc (.cells #[.int .i64 0, .int .i64 0] 24 (0, 0))).alloc (.cells #[.slice none 0 0] 48 (0, 0))).alloc (.cells #[.int .i64 0] 3 (0, 0))).alloc (.cells #[.int .i64 0] 3 (0, 0))).alloc (.cells #[(.func (.func 34) #[] #[.pointer (some ⟨w1.heap.size + 1 + 1, 0, none⟩), .pointer (some ⟨w1.heap.size + 1 + 1 + 1, 0, none⟩), .pointer (some ⟨w.heap.size, 0, none⟩), .pointer (some ⟨w.heap.size + 1, 0, none⟩), .pointer (some ⟨w1.heap.size + 1, 0, none⟩)])] 64 (0, 0))) (w.heap.size + 1) (.slice q b.length cap') ∧
        One (((((w1.alloc (.cells #[.int .i64 0, .int .i64 0] 24 (0, 0))).alloc (.cells #[.slice none 0 0] 48 (0, 0))).alloc (.cells #[.int .i64 0] 3 (0, 0))).alloc (.cells #[.int .i64 0] 3 (0, 0))).alloc (.cells #[(.func (.func 34) #[] #[.pointer (some ⟨w1.heap.size + 1 + 1, 0, none⟩), .pointer (some ⟨w1.heap.size + 1 + 1 + 1, 0, none⟩), .pointer (some ⟨w.heap.size, 0, none⟩), .pointer (some ⟨w.heap.size + 1, 0, none⟩), .pointer (some ⟨w1.heap.size + 1, 0, none⟩)])] 64 (0, 0))) (w1.heap.size + 1) (.slice none 0 0) ∧ One (((((w1.alloc (.cells #[.int .i64 0, .int .i64 0] 24 (0, 0))).alloc (.cells #[.slice none 0 0] 48 (0, 0))).alloc (.cells #[.int .i64 0] 3 (0, 0))).alloc (.cells #[.int .i64 0] 3 (0, 0))).alloc (.cells #[(.func (.func 34) #[] #[.pointer (some ⟨w1.heap.size + 1 + 1, 0, none⟩), .pointer (some ⟨w1.heap.size + 1 + 1 + 1, 0, none⟩), .pointer (some ⟨w.heap.size, 0, none⟩), .pointer (some ⟨w.heap.size + 1, 0, none⟩), .pointer (some ⟨w1.heap.size + 1, 0, none⟩)])] 64 (0, 0))) (w1.heap.size + 1 + 1 + 1 + 1) (.func (.func 34) #[] #[.pointer (some ⟨w1.heap.size + 1 + 1, 0, none⟩), .pointer (some ⟨w1.heap.size + 1 + 1 + 1, 0, none⟩), .pointer (some ⟨w.heap.size, 0, none⟩), .pointer (some ⟨w.heap.size + 1, 0, none⟩), .pointer (some ⟨w1.heap.size + 1, 0, none⟩)]) ∧ Flt (((((w1.alloc (.cells #[.int .i64 0, .int .i64 0] 24 (0, 0))).alloc (.cells #[.slice none 0 0] 48 (0, 0))).alloc (.cells #[.int .i64 0] 3 (0, 0))).alloc (.cells #[.int .i64 0] 3 (0, 0))).alloc (.cells #[(.func (.func 34) #[] #[.pointer (some ⟨w1.heap.size + 1 + 1, 0, none⟩), .pointer (some ⟨w1.heap.size + 1 + 1 + 1, 0, none⟩), .pointer (some ⟨w.heap.size, 0, none⟩), .pointer (some ⟨w.heap.size + 1, 0, none⟩), .pointer (some ⟨w1.heap.size + 1, 0, none⟩)])] 64 (0, 0))) (w.heap.size + 1 + 1 + 1) 0 0 ∧ One (((((w1.alloc (.cells #[.int .i64 0, .int .i64 0] 24 (0, 0))).alloc (.cells #[.slice none 0 0] 48 (0, 0))).alloc (.cells #[.int .i64 0] 3 (0, 0))).alloc (.cells #[.int .i64 0] 3 (0, 0))).alloc (.cells #[(.func (.func 34) #[] #[.pointer (some ⟨w1.heap.size + 1 + 1, 0, none⟩), .pointer (some ⟨w1.heap.size + 1 + 1 + 1, 0, none⟩), .pointer (some ⟨w.heap.size, 0, none⟩), .pointer (some ⟨w.heap.size + 1, 0, none⟩), .pointer (some ⟨w1.heap.size + 1, 0, none⟩)])] 64 (0, 0))) (w.heap.size + 1 + 1) (.slice none 0 0)) := by
      refine ⟨((One.new ((w1.alloc (.cells #[.int .i64 0, .int .i64 0] 24 (0, 0))).alloc (.cells #[.slice none 0 0] 48 (0, 0))) (.int .i64 0) 3 (w1.heap.size + 1 + 1) (by simp)).alloc _).alloc _, (One.new (((w1.alloc (.cells #[.int .i64 0, .int .i64 0] 24 (0, 0))).alloc (.cells #[.slice none 0 0] 48 (0, 0))).alloc (.cells #[.int .i64 0] 3 (0, 0))) (.int .i64 0) 3 (w1.heap.size + 1 + 1 + 1) (by simp)).alloc _, ((((OR.out.1.alloc _).alloc _).alloc _).alloc _).alloc _, ((((OR.out.2.1.alloc _).alloc _).alloc _).alloc _).alloc _,
        (((One.new (w1.alloc (.cells #[.int .i64 0, .int .i64 0] 24 (0, 0))) (.slice none 0 0) 48 (w1.heap.size + 1) (by simp)).alloc _).alloc _).alloc _, One.new ((((w1.alloc (.cells #[.int .i64 0, .int .i64 0] 24 (0, 0))).alloc (.cells #[.slice none 0 0] 48 (0, 0))).alloc (.cells #[.int .i64 0] 3 (0, 0))).alloc (.cells #[.int .i64 0] 3 (0, 0))) (.func (.func 34) #[] #[.pointer (some ⟨w1.heap.size + 1 + 1, 0, none⟩), .pointer (some ⟨w1.heap.size + 1 + 1 + 1, 0, none⟩), .pointer (some ⟨w.heap.size, 0, none⟩), .pointer (some ⟨w.heap.size + 1, 0, none⟩), .pointer (some ⟨w1.heap.size + 1, 0, none⟩)]) 64 (w1.heap.size + 1 + 1 + 1 + 1) (by simp), ((((HA.out.alloc _).alloc _).alloc _).alloc _).alloc _, ((((OR.out.2.2.alloc _).alloc _).alloc _).alloc _).alloc _⟩
    have ca5 := Z.out.2.2.1.c
    have cb5 := Z.out.2.2.2.1.c
    have up5 := up_alloc (up_alloc (up_alloc (up_alloc (up_alloc u1 (.cells #[.int .i64 0, .int .i64 0] 24 (0, 0))) (.cells #[.slice none 0 0] 48 (0, 0))) (.cells #[.int .i64 0] 3 (0, 0))) (.cells #[.int .i64 0] 3 (0, 0))) (.cells #[(.func (.func 34) #[] #[.pointer (some ⟨w1.heap.size + 1 + 1, 0, none⟩), .pointer (some ⟨w1.heap.size + 1 + 1 + 1, 0, none⟩), .pointer (some ⟨w.heap.size, 0, none⟩), .pointer (some ⟨w.heap.size + 1, 0, none⟩), .pointer (some ⟨w1.heap.size + 1, 0, none⟩)])] 64 (0, 0))
    have z5 : (((((w1.alloc (.cells #[.int .i64 0, .int .i64 0] 24 (0, 0))).alloc (.cells #[.slice none 0 0] 48 (0, 0))).alloc (.cells #[.int .i64 0] 3 (0, 0))).alloc (.cells #[.int .i64 0] 3 (0, 0))).alloc (.cells #[(.func (.func 34) #[] #[.pointer (some ⟨w1.heap.size + 1 + 1, 0, none⟩), .pointer (some ⟨w1.heap.size + 1 + 1 + 1, 0, none⟩), .pointer (some ⟨w.heap.size, 0, none⟩), .pointer (some ⟨w.heap.size + 1, 0, none⟩), .pointer (some ⟨w1.heap.size + 1, 0, none⟩)])] 64 (0, 0))).heap.size = w1.heap.size + 5 := by simp
    go_wp2_with fail
    have DS : Dst w.heap.size (((((w1.alloc (.cells #[.int .i64 0, .int .i64 0] 24 (0, 0))).alloc (.cells #[.slice none 0 0] 48 (0, 0))).alloc (.cells #[.int .i64 0] 3 (0, 0))).alloc (.cells #[.int .i64 0] 3 (0, 0))).alloc (.cells #[(.func (.func 34) #[] #[.pointer (some ⟨w1.heap.size + 1 + 1, 0, none⟩), .pointer (some ⟨w1.heap.size + 1 + 1 + 1, 0, none⟩), .pointer (some ⟨w.heap.size, 0, none⟩), .pointer (some ⟨w.heap.size + 1, 0, none⟩), .pointer (some ⟨w1.heap.size + 1, 0, none⟩)])] 64 (0, 0))).heap.size (w1.heap.size + 1 + 1) (w1.heap.size + 1 + 1 + 1) (w.heap.size) (w.heap.size + 1) (w1.heap.size + 1) (w1.heap.size + 1 + 1 + 1 + 1) (w.heap.size + 1 + 1 + 1) (w.heap.size + 1 + 1) := by
      rw [z5]
      refine ⟨⟨?_, ?_, ?_⟩, ⟨?_, ?_, ?_, ?_, ?_, ?_, ?_, ?_⟩, ⟨?_, ?_, ?_, ?_, ?_, ?_, ?_, ?_, ?_⟩, ⟨?_, ?_, ?_, ?_, ?_, ?_, ?_, ?_, ?_⟩⟩ <;> omega
    refine (each_any 36 #[.pointer (some ⟨w1.heap.size + 1 + 1 + 1 + 1, 0, none⟩), .pointer (some ⟨w1.heap.size + 1 + 1, 0, none⟩), .pointer (some ⟨w1.heap.size + 1 + 1 + 1, 0, none⟩)] _
      p q a b _ _ _ _ w _ rfl rfl HP.out HQ.out (by omega) (by omega) up5 (enters_of Try.func36 (by kernel_rfl) rfl)
      (keeps_script HP.out HQ.out hc hc' hl hl' l1 l2 DS Z.out.1 Z.out.2.1 Z.out.2.2.1 Z.out.2.2.2.1 Z.out.2.2.2.2.1 Z.out.2.2.2.2.2.1 Z.out.2.2.2.2.2.2.1 Z.out.2.2.2.2.2.2.2)).mono ?_
    rintro e w3 ⟨rfl, C, ⟨⟨fa, fb, qs, hP, hS⟩, k1, k2, k3⟩, hC, hC3, hb3⟩
    rw [z5] at hC hS
    have hq1 := hP.len
    have hq2 := hP.hi
    rw [List.length_map] at hq1
    have CH := Lib.hid (changed_any (w1.heap.size + 1 + 1) (w1.heap.size + 1 + 1 + 1) (w.heap.size) (w.heap.size + 1) (w1.heap.size + 1) (w1.heap.size + 5) C fa fb a.length b.length p q a b cap cap' qs w3 hS (HP.out.mono hb3) (HQ.out.mono hb3) hc hc' hl hl' hP.hi (Nat.le_refl _) hP.hj (Nat.le_refl _) (by omega) (by omega) (by omega)
      (by omega) (by omega) (by omega) (by omega) (by omega) (by omega) (by omega) (by omega) (by omega))
    have HD := Lib.hid hP.done
    have k1c := k1.c
    have ca3 := hS.ca
    have cb3 := hS.cb
    have K2 := Lib.hid k2
    have K3 := Lib.hid k3
    have HB3 := Lib.hid hb3
    clear a0 a1 a2 a3 a4 ca cb cr fr ca5 cb5 Z DS up5 u1 up0 hb1 hP hS k1 k2 k3 hb3 HA OR z5
    go_wp2_with fail
    refine CH.out.mono ?_
    rintro e w4 ⟨rfl, qs', hS4, hm, O⟩
    obtain ⟨v, hv⟩ := hS4.pb
    have r4 := K3.out.same (O.block (w.heap.size + 1 + 1) (by omega) (by omega))
    have f4 := K2.out.same (O.block (w.heap.size + 1 + 1 + 1) (by omega) (by omega))
    have cp4 := hv.pc
    obtain ⟨p', cp', ev, -, -, -⟩ := hv.ptc
    rw [List.length_map] at ev
    subst ev
    have HV := Lib.hid hv
    have HO := Lib.hid O
    have HM := Lib.hid hm
    have hsz := O.size
    obtain ⟨dr, d0, d1⟩ := put_both (v := .slice p' qs'.length cp') f4 r4 (by omega) 0 0
    have cr4 := r4.c
    have fr4 := r4.f
    obtain ⟨a0, a1, a2, a3, a4⟩ := f4
    clear hS4 hm O r4 k1c ca3 cb3 hv
    go_wp2_with fail
    refine bodyPost_ret (v := .tuple #[.agg #[.slice p' qs'.length cp'], .agg #[.int .i64 0, .int .i64 0]]) (by simp [results, Try.results22, go_sem, d0, d1, dr]) rfl ?_
    have ES : sD a b = qs'.map (·.1) := by rw [E.out.1, HD.out, HM.out]
    obtain ⟨p2, cap2, e2, hpt, q1, q2⟩ := HV.out.ptcW (((w4.setCell ⟨w.heap.size + 1 + 1, 0, none⟩ (.slice p' qs'.length cp')).setCell ⟨w.heap.size + 1 + 1 + 1, 0, none⟩ (.int .i64 0)).setCell ⟨w.heap.size + 1 + 1 + 1, 1, none⟩ (.int .i64 0)) (by rw [World.size_setCell, World.size_setCell, World.size_setCell]; exact Nat.le_refl _)
      (fun k hk1 hk2 => by rw [Below.heap_setCell _ _ _ _ (by dsimp only; omega), Below.heap_setCell _ _ _ _ (by dsimp only; omega), Below.heap_setCell _ _ _ _ (by dsimp only; omega)])
    rw [List.length_map] at e2
    cases e2
    refine ⟨p', cp', by rw [ES, E.out.2.1, E.out.2.2, List.length_map], by rw [ES]; exact hpt, q1, by rw [ES, List.length_map]; exact q2, ?_⟩
    have b4 : Below w.heap.size w w4 := HB3.out.trans ⟨HO.out.os, HO.out.tape, HO.out.output, HO.out.size, fun k hk => HO.out.block k (by omega) (by omega)⟩
    exact ((b4.setCell (by first | omega | (dsimp only; omega)) _).setCell (by first | omega | (dsimp only; omega)) _).setCell (by first | omega | (dsimp only; omega)) _
  · have hc := tC_not h
    have E : Hid (sD a b = []) := Lib.hid (if_neg h)
    have cr2 := cell_up cr (.cells #[.int .i64 (tC a b), .int .i64 (tI a b)] 24 (0, 0))
    have fr2 := frozen_up cr fr (.cells #[.int .i64 (tC a b), .int .i64 (tI a b)] 24 (0, 0))
    obtain ⟨a0, a1, a2, a3, a4⟩ := FA
    go_wp2_with fail
    obtain ⟨dr, d0, d1⟩ := put_both (v := .slice none 0 0) (HA.out.alloc (.cells #[.int .i64 (tC a b), .int .i64 (tI a b)] 24 (0, 0))) (OR.out.2.2.alloc (.cells #[.int .i64 (tC a b), .int .i64 (tI a b)] 24 (0, 0))) (by omega) (tC a b) (tI a b)
    go_region
    go_wp2_with fail
    refine bodyPost_ret (v := .tuple #[.agg #[.slice none 0 0], .agg #[.int .i64 (tC a b), .int .i64 (tI a b)]]) (by simp [results, Try.results22, go_sem, d0, d1, dr]) rfl ⟨none, 0, by rw [E.out]; rfl, by rw [E.out]; exact ⟨fun _ => rfl, fun h => (h rfl).elim⟩, fun _ => rfl, by rw [E.out]; exact Nat.zero_le _, ?_⟩
    have := u1.size
    (repeat' (first | (with_reducible exact Below.refl _ _) | (with_reducible assumption) | (with_reducible refine below_drewN ?_ _) | (with_reducible refine Below.setCell ?_ ?_ _) | (with_reducible refine Below.alloc ?_ ?_ _) | (with_reducible refine Below.drew ?_) | go_size))
end Go.Proofs.Ytkfloglpihbdjaa
