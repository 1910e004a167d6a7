
/-
  The program's diff.clone, and the function of diff.Script that writes a hunk, walked.
-/
import Derived.Test.YtcheggdfcdokiaaDoorDfP
import Derived.Test.YtcheggdfcdokiaaDoorDfE
import Derived.Deep.RegionHeld3
namespace Go.Proofs.YtcheggdfcdokiaaDoor
open Go.RowKit
set_option maxRecDepth 4000

theorem strE_flat (l : List ByteArray) : l.flatMap strE.enc = l.map strv := by
  induction l with
  | nil => rfl
  | cons x l ih => rw [List.flatMap_cons, ih]; rfl
theorem ownE_ofS {base : Nat} {w : World} {v : Value} {l : List ByteArray} (h : OwnS base w v l) : OwnE strE base w v l := by
  unfold OwnE
  rw [strE_flat]; exact h
/-- what is in memory while the script is made: fromA, fromB, the two texts, the patch -/
structure SI (f1 f2 g1 g2 pg : Nat) (Va Vb : Value) (B C fa fb : Nat) (qs : List Q) (w : World) : Prop where
  c1 : w.cell? ⟨f1, 0, none⟩ = some (.int .i64 (fa : Int))
  c2 : w.cell? ⟨f2, 0, none⟩ = some (.int .i64 (fb : Int))
  z1 : w.frozen? ⟨f1, 0, none⟩ = false
  z2 : w.frozen? ⟨f2, 0, none⟩ = false
  ca : w.cell? ⟨g1, 0, none⟩ = some Va
  cb : w.cell? ⟨g2, 0, none⟩ = some Vb
  pb : ∃ v, PBs C pg qs.length w v qs
  hB : B ≤ C
  hC : C ≤ w.heap.size
theorem SI.drewN {f1 f2 g1 g2 pg : Nat} {Va Vb : Value} {B C fa fb : Nat} {qs : List Q} {w : World} (h : SI f1 f2 g1 g2 pg Va Vb B C fa fb qs w) (n : Nat) : SI f1 f2 g1 g2 pg Va Vb B C fa fb qs (w.drewN n) := by
  obtain ⟨v, hv⟩ := h.pb
  exact ⟨h.c1, h.c2, h.z1, h.z2, h.ca, h.cb, ⟨v, hv.pc, hv.pf, hv.pl, hv.bl, hv.own, hv.cnt, fun q hq => (hv.ok q hq).next (Nat.le_refl _) (fun _ _ _ _ => rfl) (fun _ _ _ h => h)⟩, h.hB, h.hC⟩
/-- all blocks below C but pg are as they were -/
structure Only (C pg : Nat) (w w' : World) : Prop where
  os : w'.os = w.os
  tape : w'.tape = w.tape
  output : w'.output = w.output
  size : w.heap.size ≤ w'.heap.size
  block : ∀ k, k < C → k ≠ pg → w'.heap[k]? = w.heap[k]?
theorem Only.refl (C pg : Nat) (w : World) : Only C pg w w := ⟨rfl, rfl, rfl, Nat.le_refl _, fun _ _ _ => rfl⟩
theorem Only.far {C pg A B : Nat} {w w' : World} (h : Only C pg w w') (hA : A ≤ pg) (hB : pg < B) (hAC : A ≤ C) : Far A B C w w' :=
  ⟨⟨h.os, h.tape, h.output, h.size, fun k hk => h.block k (by omega) (by omega)⟩, fun k h1 h2 => h.block k h2 (by omega)⟩

theorem PBs.up {base pg k : Nat} {w w' : World} {v : Value} {qs : List Q} (h : PBs base pg k w v qs) (hb : Below w.heap.size w w') : PBs base pg k w' v qs := by
  have hz := hb.size
  refine ⟨by rw [hb.cell (p := ⟨pg, 0, none⟩) (Nat.lt_of_lt_of_le h.pl h.bl), h.pc], by rw [hb.frozen (p := ⟨pg, 0, none⟩) (Nat.lt_of_lt_of_le h.pl h.bl), h.pf], h.pl, by have := h.bl; omega, ?_, h.cnt, fun q hq => (h.ok q hq).next hz (fun k hk _ _ => hb.block k hk) (fun _ _ _ h => h)⟩
  obtain ⟨h1, h2 | ⟨g, cap, cur, e, hg, hc, r⟩⟩ := h.own
  · exact ⟨h1, .inl h2⟩
  · exact ⟨h1, .inr ⟨g, cap, cur, e, hg, by rw [hb.block g (Array.getElem?_eq_some_iff.1 hc).1]; exact hc, r⟩⟩
theorem OwnE.up {α : Type} {e : Enc α} {base : Nat} {w w' : World} {v : Value} {l : List α} (h : OwnE e base w v l) (hb : Below w.heap.size w w') : OwnE e base w' v l := by
  obtain ⟨h1, h2 | ⟨g, cap, cur, e, hg, hc, r⟩⟩ := h
  · exact ⟨h1, .inl h2⟩
  · exact ⟨h1, .inr ⟨g, cap, cur, e, hg, by rw [hb.block g (Array.getElem?_eq_some_iff.1 hc).1]; exact hc, r⟩⟩
/-- a hunk whose rows were made behind the patch's -/
theorem qok_new {base W : Nat} {w : World} {v : Value} {h : Dif.Hk ByteArray} {o n : Sv} (ho : OwnE strE W w (sv o) h.old) (hn : OwnE strE W w (sv n) h.new) (hv : ∀ b, v.ownBlock = some b → b < W) (hb : base ≤ W)
    (s1 : ∀ x ∈ h.old, x.size ≤ 140737488351232) (s2 : ∀ x ∈ h.new, x.size ≤ 140737488351232) (l1 : h.old.length ≤ 281474976710656) (l2 : h.new.length ≤ 281474976710656) : Qok base w (fun b => v.ownBlock = some b) (h, o, n) := by
  refine ⟨rd_of_own ho s1 l1, rd_of_own hn s2 l2, fun a ha => ?_, fun a ha => ?_⟩
  · have := own_block ho a.block (sv_block _ a ha)
    exact ⟨by omega, this.2, fun h => by have := hv _ h; omega⟩
  · have := own_block hn a.block (sv_block _ a ha)
    exact ⟨by omega, this.2, fun h => by have := hv _ h; omega⟩
theorem sAt_none {p : Option Addr} {k cap : Nat} (hc : p = none → cap = 0) (h : sAt p k cap = none) : cap - k = 0 := by
  unfold sAt at h
  split at h
  · rename_i e; omega
  · have : p = none := by simpa using h
    rw [hc this]; omega
theorem mid_small {l : List ByteArray} {n : Nat} (h : ∀ x ∈ l, x.size ≤ n) (lo hi : Nat) : ∀ x ∈ mid l lo hi, x.size ≤ n := fun x hx => h x (List.mem_of_mem_drop (List.mem_of_mem_take hx))

/-- a block that holds a hunk's zero value -/
structure Hz (w : World) (g : Nat) : Prop where
  c0 : w.cell? ⟨g, 0, none⟩ = some (.int .i64 0)
  c1 : w.cell? ⟨g, 1, none⟩ = some (.slice none 0 0)
  c2 : w.cell? ⟨g, 2, none⟩ = some (.slice none 0 0)
  f0 : w.frozen? ⟨g, 0, none⟩ = false
  f1 : w.frozen? ⟨g, 1, none⟩ = false
  f2 : w.frozen? ⟨g, 2, none⟩ = false
  lt : g < w.heap.size
theorem Hz.new (w : World) (t : TypeId) : Hz (w.alloc (.cells #[.int .i64 0, .slice none 0 0, .slice none 0 0] t (0, 0))) w.heap.size := by
  refine ⟨?_, ?_, ?_, ?_, ?_, ?_, by rw [World.size_alloc]; omega⟩
  · rw [World.cell?_alloc_mark]; rfl
  · rw [World.cell?_alloc_mark]; rfl
  · rw [World.cell?_alloc_mark]; rfl
  · rw [World.frozen?_alloc_mark]; rfl
  · rw [World.frozen?_alloc_mark]; rfl
  · rw [World.frozen?_alloc_mark]; rfl
theorem Hz.up {w w' : World} {g : Nat} (h : Hz w g) (hb : Below w.heap.size w w') : Hz w' g := by
  have hl := h.lt
  exact ⟨by rw [hb.cell (p := ⟨g, 0, none⟩) hl, h.c0], by rw [hb.cell (p := ⟨g, 1, none⟩) hl, h.c1], by rw [hb.cell (p := ⟨g, 2, none⟩) hl, h.c2],
    by rw [hb.frozen (p := ⟨g, 0, none⟩) hl, h.f0], by rw [hb.frozen (p := ⟨g, 1, none⟩) hl, h.f1], by rw [hb.frozen (p := ⟨g, 2, none⟩) hl, h.f2], Nat.lt_of_lt_of_le hl hb.size⟩
theorem Hz.drew {w : World} {g : Nat} (h : Hz w g) : Hz w.drew g := ⟨h.c0, h.c1, h.c2, h.f0, h.f1, h.f2, h.lt⟩
theorem hunk_one (w : World) (z : Int) (o n : Sv) (t : TypeId) (k : Nat) (u : Value) (h : (hkE.enc (z, o, n))[k]? = some u) : (w.alloc (.cells #[.int .i64 z, sv o, sv n] t (0, 0))).cell? ((⟨w.heap.size, 0, none⟩ : Addr).add k) = some u := by
  rw [add_at, Nat.zero_add, World.cell?_alloc_mark]
  simp only [hkE] at h
  match k, h with
  | 0, h => simpa using h
  | 1, h => simpa using h
  | 2, h => simpa using h
  | k + 3, h => simp at h
theorem Hz.set3 {w : World} {g : Nat} (h : Hz w g) (x y z : Value) : (((w.setCell ⟨g, 0, none⟩ x).setCell ⟨g, 1, none⟩ y).setCell ⟨g, 2, none⟩ z).cell? ⟨g, 0, none⟩ = some x ∧
    (((w.setCell ⟨g, 0, none⟩ x).setCell ⟨g, 1, none⟩ y).setCell ⟨g, 2, none⟩ z).cell? ⟨g, 1, none⟩ = some y ∧ (((w.setCell ⟨g, 0, none⟩ x).setCell ⟨g, 1, none⟩ y).setCell ⟨g, 2, none⟩ z).cell? ⟨g, 2, none⟩ = some z := by
  have n01 : (⟨g, 0, none⟩ : Addr) ≠ ⟨g, 1, none⟩ := by simp
  have n02 : (⟨g, 0, none⟩ : Addr) ≠ ⟨g, 2, none⟩ := by simp
  have n12 : (⟨g, 1, none⟩ : Addr) ≠ ⟨g, 2, none⟩ := by simp
  refine ⟨?_, ?_, ?_⟩
  · rw [World.cell?_setCell_other (h := n02.symm), World.cell?_setCell_other (h := n01.symm), World.cell?_setCell_same (h := h.c0)]
  · rw [World.cell?_setCell_other (h := n12.symm)]
    exact World.cell?_setCell_same _ _ _ (by rw [World.cell?_setCell_other (h := n01), h.c1])
  · exact World.cell?_setCell_same _ _ _ (by rw [World.cell?_setCell_other (h := n12), World.cell?_setCell_other (h := n02), h.c2])
/-- the region's end: what was made -/
structure Made (w G : World) (o n : Value) (l m : List ByteArray) : Prop where
  bel : Below w.heap.size w G
  own1 : OwnE strE w.heap.size G o l
  own2 : OwnE strE w.heap.size G n m
theorem OwnE.set {base : Nat} {w : World} {v : Value} {l : List ByteArray} (h : OwnE strE base w v l) {g k : Nat} (hg : ∀ b, v.ownBlock = some b → b ≠ g) (u : Value) : OwnE strE base (w.setCell ⟨g, k, none⟩ u) v l :=
  ownsRow_setCell_other h (fun e => hg _ e rfl) u
theorem Made.set {w G : World} {o n : Value} {l m : List ByteArray} (h : Made w G o n l m) {g k : Nat} (hw : w.heap.size ≤ g) (h1 : ∀ b, o.ownBlock = some b → b ≠ g) (h2 : ∀ b, n.ownBlock = some b → b ≠ g) (u : Value) : Made w (G.setCell ⟨g, k, none⟩ u) o n l m :=
  ⟨h.bel.setCell (by exact hw) u, h.own1.set h1 u, h.own2.set h2 u⟩
/-- .. and the hunk appended -/
theorem pushed {f1 f2 g1 g2 pg B C fa fb i j : Nat} {Va Vb v v2 : Value} {a b : List ByteArray} {qs : List Q} {w G w2 : World} {o n : Sv} {ob : Obj} (hI : SI f1 f2 g1 g2 pg Va Vb B C fa fb qs w) (hV : PBs C pg qs.length w v qs) (M : Made w G (sv o) (sv n) (mid a fa i) (mid b fb j))
    (sa : ∀ x ∈ a, x.size ≤ 140737488351232) (sb : ∀ x ∈ b, x.size ≤ 140737488351232) (la : a.length ≤ 1000) (lb : b.length ≤ 1000) (gr : (G.alloc ob).grownBy w2 v.ownBlock) (own : OwnE hkE C w2 v2 (qs.map Q.raw ++ [((fa : Int), o, n)]))
    (hat : v2.ownBlock = v.ownBlock ∨ v2.ownBlock = some (G.alloc ob).heap.size) (d1 : f1 < B) (d2 : f2 < B) (d3 : g1 < B) (d4 : g2 < B) (n1 : f1 ≠ pg) (n2 : f2 ≠ pg) (n3 : g1 ≠ pg) (n4 : g2 ≠ pg) :
    SI f1 f2 g1 g2 pg Va Vb B C fa fb (qs ++ [((⟨(fa : Int), mid a fa i, mid b fb j⟩, o, n) : Q)]) (w2.setCell ⟨pg, 0, none⟩ v2) ∧ Only C pg w (w2.setCell ⟨pg, 0, none⟩ v2) := by
  have hC := hI.hC
  have hB := hI.hB
  have hpl := hV.pl
  have VG := hV.up M.bel
  have G2 : G.grownBy w2 v.ownBlock := grow_trans (World.grownBy_alloc G ob none) gr
  have hvw : ∀ b, v.ownBlock = some b → C ≤ b ∧ b < w.heap.size := fun b hb => own_block hV.own b hb
  have lm1 : (mid a fa i).length ≤ 1000 := by unfold mid; rw [List.length_take, List.length_drop]; omega
  have lm2 : (mid b fb j).length ≤ 1000 := by unfold mid; rw [List.length_take, List.length_drop]; omega
  have P := VG.push ((⟨(fa : Int), mid a fa i, mid b fb j⟩, o, n) : Q) (qok_new (W := w.heap.size) (h := ⟨(fa : Int), mid a fa i, mid b fb j⟩) M.own1 M.own2 (fun b hb => (hvw b hb).2) hC (mid_small sa _ _) (mid_small sb _ _) (by show (mid a fa i).length ≤ _; omega) (by show (mid b fb j).length ≤ _; omega)) G2 own (G.alloc ob).heap.size (by simp) hat
  have O : Only C pg w (w2.setCell ⟨pg, 0, none⟩ v2) := by
    refine ⟨G2.os.trans M.bel.os, G2.tape.trans M.bel.tape, G2.output.trans M.bel.output, by rw [World.size_setCell]; exact Nat.le_trans M.bel.size G2.size, fun k hk hne => ?_⟩
    rw [Below.heap_setCell _ _ _ _ (by exact hne), G2.block k (by have := M.bel.size; omega) (fun e => by have := hvw _ e.symm; omega), M.bel.block k (by omega)]
  have ce : ∀ k, k < C → k ≠ pg → (w2.setCell ⟨pg, 0, none⟩ v2).cell? ⟨k, 0, none⟩ = w.cell? ⟨k, 0, none⟩ := fun k h1 h2 => World.cell?_of_block (a := ⟨k, 0, none⟩) (O.block k h1 h2)
  have fe : ∀ k, k < C → k ≠ pg → (w2.setCell ⟨pg, 0, none⟩ v2).frozen? ⟨k, 0, none⟩ = w.frozen? ⟨k, 0, none⟩ := fun k h1 h2 => World.frozen?_of_block (a := ⟨k, 0, none⟩) (O.block k h1 h2)
  refine ⟨⟨by rw [ce f1 (by omega) n1, hI.c1], by rw [ce f2 (by omega) n2, hI.c2], by rw [fe f1 (by omega) n1, hI.z1], by rw [fe f2 (by omega) n2, hI.z2], by rw [ce g1 (by omega) n3, hI.ca], by rw [ce g2 (by omega) n4, hI.cb], ⟨v2, ?_⟩, hB, Nat.le_trans hC O.size⟩, O⟩
  rw [List.length_append]; exact P

end Go.Proofs.YtcheggdfcdokiaaDoor
