
/-
  The program's diff.clone, and the function of diff.Script that writes a hunk, walked.
-/
import Derived.Test.YtkfloglpihbdjaaDfP
import Derived.Test.YtkfloglpihbdjaaDfE
import Derived.Deep.RegionHeld3
namespace Go.Proofs.Ytkfloglpihbdjaa
open Go.RowKit
set_option maxRecDepth 4000

theorem strE_flat (l : List ByteArray) : l.flatMap strE.enc = l.map strv := by
  induction l with
  | nil => rfl
  | cons x l ih => rw [List.flatMap_cons, ih]; rfl
theorem ownE_ofS {base : Nat} {w : World} {v : Value} {l : List ByteArray} (h : OwnS base w v l) : OwnE strE base w v l := by
  unfold OwnE
  rw [strE_flat]; exact h
theorem clone_any (p : Option Addr) (l : List ByteArray) (n cap : Nat) (w : World) (hn : n = l.length) (hp : Sts w p l) (hc : p = none → cap = 0) (hl : l.length ≤ 1000000) :
    Calls Try.prog 35 #[.slice p n cap] w fun e w' => ∃ (o1 : Option Addr) (o2 o3 : Nat), e = .returned (.slice o1 o2 o3) ∧ OwnE strE w.heap.size w' (.slice o1 o2 o3) l ∧ Below w.heap.size w w' := by
  subst hn
  have HP := Lib.hid hp
  have HC := Lib.hid hc
  have own0 : Hid (OwnS w.heap.size w (.slice none 0 0) []) := Lib.hid (World.ownsRow_nil w w.heap.size 9 1)
  clear hp hc
  go_enter Try.func35, Try.ntmps35
  go_wp2_with (at_builtin; refine wp_appS rfl (.const (.slice none 0 0)) (.tmp 3) rfl w.heap.size (.slice none 0 0) [] l p cap rfl own0.out rfl HP.out HC.out (by simp; omega) (Nat.le_refl _) ?_; intro v' w' own bel)
  have OWN := Lib.hid own
  have BEL := Lib.hid bel
  clear own bel
  go_ret
  obtain ⟨p', cp, rfl, -, -, -, -⟩ := row_of_own (ownE_ofS OWN.out)
  exact ⟨p', _, cp, rfl, ownE_ofS OWN.out, BEL.out⟩

/-- what is in memory while the script is made: fromA, fromB, the two texts, the patch -/
structure SI (f1 f2 g1 g2 pg : Nat) (Va Vb : Value) (B C fa fb : Nat) (qs : List Q) (w : World) : Prop where
  c1 : w.cell? ⟨f1, 0, none⟩ = some (.int .i64 (fa : Int))
  c2 : w.cell? ⟨f2, 0, none⟩ = some (.int .i64 (fb : Int))
  z1 : w.frozen? ⟨f1, 0, none⟩ = false
  z2 : w.frozen? ⟨f2, 0, none⟩ = false
  ca : w.cell? ⟨g1, 0, none⟩ = some Va
  cb : w.cell? ⟨g2, 0, none⟩ = some Vb
  pb : ∃ v, PBs C pg qs.length w v qs
  hB : B ≤ C
  hC : C ≤ w.heap.size
theorem SI.drewN {f1 f2 g1 g2 pg : Nat} {Va Vb : Value} {B C fa fb : Nat} {qs : List Q} {w : World} (h : SI f1 f2 g1 g2 pg Va Vb B C fa fb qs w) (n : Nat) : SI f1 f2 g1 g2 pg Va Vb B C fa fb qs (w.drewN n) := by
  obtain ⟨v, hv⟩ := h.pb
  exact ⟨h.c1, h.c2, h.z1, h.z2, h.ca, h.cb, ⟨v, hv.pc, hv.pf, hv.pl, hv.bl, hv.own, hv.cnt, fun q hq => (hv.ok q hq).next (Nat.le_refl _) (fun _ _ _ _ => rfl) (fun _ _ _ h => h)⟩, h.hB, h.hC⟩
/-- all blocks below C but pg are as they were -/
structure Only (C pg : Nat) (w w' : World) : Prop where
  os : w'.os = w.os
  tape : w'.tape = w.tape
  output : w'.output = w.output
  size : w.heap.size ≤ w'.heap.size
  block : ∀ k, k < C → k ≠ pg → w'.heap[k]? = w.heap[k]?
theorem Only.refl (C pg : Nat) (w : World) : Only C pg w w := ⟨rfl, rfl, rfl, Nat.le_refl _, fun _ _ _ => rfl⟩
theorem Only.far {C pg A B : Nat} {w w' : World} (h : Only C pg w w') (hA : A ≤ pg) (hB : pg < B) (hAC : A ≤ C) : Far A B C w w' :=
  ⟨⟨h.os, h.tape, h.output, h.size, fun k hk => h.block k (by omega) (by omega)⟩, fun k h1 h2 => h.block k h2 (by omega)⟩

theorem PBs.up {base pg k : Nat} {w w' : World} {v : Value} {qs : List Q} (h : PBs base pg k w v qs) (hb : Below w.heap.size w w') : PBs base pg k w' v qs := by
  have hz := hb.size
  refine ⟨by rw [hb.cell (p := ⟨pg, 0, none⟩) (Nat.lt_of_lt_of_le h.pl h.bl), h.pc], by rw [hb.frozen (p := ⟨pg, 0, none⟩) (Nat.lt_of_lt_of_le h.pl h.bl), h.pf], h.pl, by have := h.bl; omega, ?_, h.cnt, fun q hq => (h.ok q hq).next hz (fun k hk _ _ => hb.block k hk) (fun _ _ _ h => h)⟩
  obtain ⟨h1, h2 | ⟨g, cap, cur, e, hg, hc, r⟩⟩ := h.own
  · exact ⟨h1, .inl h2⟩
  · exact ⟨h1, .inr ⟨g, cap, cur, e, hg, by rw [hb.block g (Array.getElem?_eq_some_iff.1 hc).1]; exact hc, r⟩⟩
theorem OwnE.up {α : Type} {e : Enc α} {base : Nat} {w w' : World} {v : Value} {l : List α} (h : OwnE e base w v l) (hb : Below w.heap.size w w') : OwnE e base w' v l := by
  obtain ⟨h1, h2 | ⟨g, cap, cur, e, hg, hc, r⟩⟩ := h
  · exact ⟨h1, .inl h2⟩
  · exact ⟨h1, .inr ⟨g, cap, cur, e, hg, by rw [hb.block g (Array.getElem?_eq_some_iff.1 hc).1]; exact hc, r⟩⟩
/-- a hunk whose rows were made behind the patch's -/
theorem qok_new {base W : Nat} {w : World} {v : Value} {h : Dif.Hk ByteArray} {o n : Sv} (ho : OwnE strE W w (sv o) h.old) (hn : OwnE strE W w (sv n) h.new) (hv : ∀ b, v.ownBlock = some b → b < W) (hb : base ≤ W)
    (s1 : ∀ x ∈ h.old, x.size ≤ 140737488351232) (s2 : ∀ x ∈ h.new, x.size ≤ 140737488351232) (l1 : h.old.length ≤ 281474976710656) (l2 : h.new.length ≤ 281474976710656) : Qok base w (fun b => v.ownBlock = some b) (h, o, n) := by
  refine ⟨rd_of_own ho s1 l1, rd_of_own hn s2 l2, fun a ha => ?_, fun a ha => ?_⟩
  · have := own_block ho a.block (sv_block _ a ha)
    exact ⟨by omega, this.2, fun h => by have := hv _ h; omega⟩
  · have := own_block hn a.block (sv_block _ a ha)
    exact ⟨by omega, this.2, fun h => by have := hv _ h; omega⟩
theorem sAt_none {p : Option Addr} {k cap : Nat} (hc : p = none → cap = 0) (h : sAt p k cap = none) : cap - k = 0 := by
  unfold sAt at h
  split at h
  · rename_i e; omega
  · have : p = none := by simpa using h
    rw [hc this]; omega
theorem mid_small {l : List ByteArray} {n : Nat} (h : ∀ x ∈ l, x.size ≤ n) (lo hi : Nat) : ∀ x ∈ mid l lo hi, x.size ≤ n := fun x hx => h x (List.mem_of_mem_drop (List.mem_of_mem_take hx))

/-- a block that holds a hunk's zero value -/
structure Hz (w : World) (g : Nat) : Prop where
  c0 : w.cell? ⟨g, 0, none⟩ = some (.int .i64 0)
  c1 : w.cell? ⟨g, 1, none⟩ = some (.slice none 0 0)
  c2 : w.cell? ⟨g, 2, none⟩ = some (.slice none 0 0)
  f0 : w.frozen? ⟨g, 0, none⟩ = false
  f1 : w.frozen? ⟨g, 1, none⟩ = false
  f2 : w.frozen? ⟨g, 2, none⟩ = false
  lt : g < w.heap.size
theorem Hz.new (w : World) (t : TypeId) : Hz (w.alloc (.cells #[.int .i64 0, .slice none 0 0, .slice none 0 0] t (0, 0))) w.heap.size := by
  refine ⟨?_, ?_, ?_, ?_, ?_, ?_, by rw [World.size_alloc]; omega⟩
  · rw [World.cell?_alloc_mark]; rfl
  · rw [World.cell?_alloc_mark]; rfl
  · rw [World.cell?_alloc_mark]; rfl
  · rw [World.frozen?_alloc_mark]; rfl
  · rw [World.frozen?_alloc_mark]; rfl
  · rw [World.frozen?_alloc_mark]; rfl
theorem Hz.up {w w' : World} {g : Nat} (h : Hz w g) (hb : Below w.heap.size w w') : Hz w' g := by
  have hl := h.lt
  exact ⟨by rw [hb.cell (p := ⟨g, 0, none⟩) hl, h.c0], by rw [hb.cell (p := ⟨g, 1, none⟩) hl, h.c1], by rw [hb.cell (p := ⟨g, 2, none⟩) hl, h.c2],
    by rw [hb.frozen (p := ⟨g, 0, none⟩) hl, h.f0], by rw [hb.frozen (p := ⟨g, 1, none⟩) hl, h.f1], by rw [hb.frozen (p := ⟨g, 2, none⟩) hl, h.f2], Nat.lt_of_lt_of_le hl hb.size⟩
theorem Hz.drew {w : World} {g : Nat} (h : Hz w g) : Hz w.drew g := ⟨h.c0, h.c1, h.c2, h.f0, h.f1, h.f2, h.lt⟩
theorem hunk_one (w : World) (z : Int) (o n : Sv) (t : TypeId) (k : Nat) (u : Value) (h : (hkE.enc (z, o, n))[k]? = some u) : (w.alloc (.cells #[.int .i64 z, sv o, sv n] t (0, 0))).cell? ((⟨w.heap.size, 0, none⟩ : Addr).add k) = some u := by
  rw [add_at, Nat.zero_add, World.cell?_alloc_mark]
  simp only [hkE] at h
  match k, h with
  | 0, h => simpa using h
  | 1, h => simpa using h
  | 2, h => simpa using h
  | k + 3, h => simp at h
theorem Hz.set3 {w : World} {g : Nat} (h : Hz w g) (x y z : Value) : (((w.setCell ⟨g, 0, none⟩ x).setCell ⟨g, 1, none⟩ y).setCell ⟨g, 2, none⟩ z).cell? ⟨g, 0, none⟩ = some x ∧
    (((w.setCell ⟨g, 0, none⟩ x).setCell ⟨g, 1, none⟩ y).setCell ⟨g, 2, none⟩ z).cell? ⟨g, 1, none⟩ = some y ∧ (((w.setCell ⟨g, 0, none⟩ x).setCell ⟨g, 1, none⟩ y).setCell ⟨g, 2, none⟩ z).cell? ⟨g, 2, none⟩ = some z := by
  have n01 : (⟨g, 0, none⟩ : Addr) ≠ ⟨g, 1, none⟩ := by simp
  have n02 : (⟨g, 0, none⟩ : Addr) ≠ ⟨g, 2, none⟩ := by simp
  have n12 : (⟨g, 1, none⟩ : Addr) ≠ ⟨g, 2, none⟩ := by simp
  refine ⟨?_, ?_, ?_⟩
  · rw [World.cell?_setCell_other (h := n02.symm), World.cell?_setCell_other (h := n01.symm), World.cell?_setCell_same (h := h.c0)]
  · rw [World.cell?_setCell_other (h := n12.symm)]
    exact World.cell?_setCell_same _ _ _ (by rw [World.cell?_setCell_other (h := n01), h.c1])
  · exact World.cell?_setCell_same _ _ _ (by rw [World.cell?_setCell_other (h := n12), World.cell?_setCell_other (h := n02), h.c2])
/-- the region's end: what was made -/
structure Made (w G : World) (o n : Value) (l m : List ByteArray) : Prop where
  bel : Below w.heap.size w G
  own1 : OwnE strE w.heap.size G o l
  own2 : OwnE strE w.heap.size G n m
theorem OwnE.set {base : Nat} {w : World} {v : Value} {l : List ByteArray} (h : OwnE strE base w v l) {g k : Nat} (hg : ∀ b, v.ownBlock = some b → b ≠ g) (u : Value) : OwnE strE base (w.setCell ⟨g, k, none⟩ u) v l :=
  ownsRow_setCell_other h (fun e => hg _ e rfl) u
theorem Made.set {w G : World} {o n : Value} {l m : List ByteArray} (h : Made w G o n l m) {g k : Nat} (hw : w.heap.size ≤ g) (h1 : ∀ b, o.ownBlock = some b → b ≠ g) (h2 : ∀ b, n.ownBlock = some b → b ≠ g) (u : Value) : Made w (G.setCell ⟨g, k, none⟩ u) o n l m :=
  ⟨h.bel.setCell (by exact hw) u, h.own1.set h1 u, h.own2.set h2 u⟩
/-- .. and the hunk appended -/
theorem pushed {f1 f2 g1 g2 pg B C fa fb i j : Nat} {Va Vb v v2 : Value} {a b : List ByteArray} {qs : List Q} {w G w2 : World} {o n : Sv} {ob : Obj} (hI : SI f1 f2 g1 g2 pg Va Vb B C fa fb qs w) (hV : PBs C pg qs.length w v qs) (M : Made w G (sv o) (sv n) (mid a fa i) (mid b fb j))
    (sa : ∀ x ∈ a, x.size ≤ 140737488351232) (sb : ∀ x ∈ b, x.size ≤ 140737488351232) (la : a.length ≤ 1000) (lb : b.length ≤ 1000) (gr : (G.alloc ob).grownBy w2 v.ownBlock) (own : OwnE hkE C w2 v2 (qs.map Q.raw ++ [((fa : Int), o, n)]))
    (hat : v2.ownBlock = v.ownBlock ∨ v2.ownBlock = some (G.alloc ob).heap.size) (d1 : f1 < B) (d2 : f2 < B) (d3 : g1 < B) (d4 : g2 < B) (n1 : f1 ≠ pg) (n2 : f2 ≠ pg) (n3 : g1 ≠ pg) (n4 : g2 ≠ pg) :
    SI f1 f2 g1 g2 pg Va Vb B C fa fb (qs ++ [((⟨(fa : Int), mid a fa i, mid b fb j⟩, o, n) : Q)]) (w2.setCell ⟨pg, 0, none⟩ v2) ∧ Only C pg w (w2.setCell ⟨pg, 0, none⟩ v2) := by
  have hC := hI.hC
  have hB := hI.hB
  have hpl := hV.pl
  have VG := hV.up M.bel
  have G2 : G.grownBy w2 v.ownBlock := grow_trans (World.grownBy_alloc G ob none) gr
  have hvw : ∀ b, v.ownBlock = some b → C ≤ b ∧ b < w.heap.size := fun b hb => own_block hV.own b hb
  have lm1 : (mid a fa i).length ≤ 1000 := by unfold mid; rw [List.length_take, List.length_drop]; omega
  have lm2 : (mid b fb j).length ≤ 1000 := by unfold mid; rw [List.length_take, List.length_drop]; omega
  have P := VG.push ((⟨(fa : Int), mid a fa i, mid b fb j⟩, o, n) : Q) (qok_new (W := w.heap.size) (h := ⟨(fa : Int), mid a fa i, mid b fb j⟩) M.own1 M.own2 (fun b hb => (hvw b hb).2) hC (mid_small sa _ _) (mid_small sb _ _) (by show (mid a fa i).length ≤ _; omega) (by show (mid b fb j).length ≤ _; omega)) G2 own (G.alloc ob).heap.size (by simp) hat
  have O : Only C pg w (w2.setCell ⟨pg, 0, none⟩ v2) := by
    refine ⟨G2.os.trans M.bel.os, G2.tape.trans M.bel.tape, G2.output.trans M.bel.output, by rw [World.size_setCell]; exact Nat.le_trans M.bel.size G2.size, fun k hk hne => ?_⟩
    rw [Below.heap_setCell _ _ _ _ (by exact hne), G2.block k (by have := M.bel.size; omega) (fun e => by have := hvw _ e.symm; omega), M.bel.block k (by omega)]
  have ce : ∀ k, k < C → k ≠ pg → (w2.setCell ⟨pg, 0, none⟩ v2).cell? ⟨k, 0, none⟩ = w.cell? ⟨k, 0, none⟩ := fun k h1 h2 => World.cell?_of_block (a := ⟨k, 0, none⟩) (O.block k h1 h2)
  have fe : ∀ k, k < C → k ≠ pg → (w2.setCell ⟨pg, 0, none⟩ v2).frozen? ⟨k, 0, none⟩ = w.frozen? ⟨k, 0, none⟩ := fun k h1 h2 => World.frozen?_of_block (a := ⟨k, 0, none⟩) (O.block k h1 h2)
  refine ⟨⟨by rw [ce f1 (by omega) n1, hI.c1], by rw [ce f2 (by omega) n2, hI.c2], by rw [fe f1 (by omega) n1, hI.z1], by rw [fe f2 (by omega) n2, hI.z2], by rw [ce g1 (by omega) n3, hI.ca], by rw [ce g2 (by omega) n4, hI.cb], ⟨v2, ?_⟩, hB, Nat.le_trans hC O.size⟩, O⟩
  rw [List.length_append]; exact P

set_option maxRecDepth 100000 in
set_option maxHeartbeats 4000000 in
theorem changed_any (f1 f2 g1 g2 pg B C fa fb i j : Nat) (p q : Option Addr) (a b : List ByteArray) (cap cap' : Nat) (qs : List Q) (w : World)
    (hI : SI f1 f2 g1 g2 pg (.slice p a.length cap) (.slice q b.length cap') B C fa fb qs w) (hp : Sts w p a) (hq : Sts w q b) (hc : p = none → cap = 0) (hc' : q = none → cap' = 0) (hl : a.length ≤ cap) (hl' : b.length ≤ cap')
    (hfi : fa ≤ i) (hi : i ≤ a.length) (hfj : fb ≤ j) (hj : j ≤ b.length) (la : a.length ≤ 1000) (lb : b.length ≤ 1000) (lq : qs.length ≤ 1000)
    (d1 : f1 < B) (d2 : f2 < B) (d3 : g1 < B) (d4 : g2 < B) (d5 : pg < B) (n1 : f1 ≠ pg) (n2 : f2 ≠ pg) (n3 : g1 ≠ pg) (n4 : g2 ≠ pg) :
    Calls Try.prog 34 #[.int .i64 (i : Int), .int .i64 (j : Int), .pointer (some ⟨f1, 0, none⟩), .pointer (some ⟨f2, 0, none⟩), .pointer (some ⟨g1, 0, none⟩), .pointer (some ⟨g2, 0, none⟩), .pointer (some ⟨pg, 0, none⟩)] w
      fun e w2 => e = .returned (.tuple #[]) ∧ ∃ qs', SI f1 f2 g1 g2 pg (.slice p a.length cap) (.slice q b.length cap') B C fa fb qs' w2 ∧ qs'.map (·.1) = qs.map (·.1) ++ pend a b fa fb i j ∧ Only C pg w w2 := by
  have HI := Lib.hid hI
  obtain ⟨c1, c2, z1, z2, ca, cb, ⟨v, hv⟩, hB, hC⟩ := hI
  have HV := Lib.hid hv
  have HP := Lib.hid hp
  have HQ := Lib.hid hq
  have HC := Lib.hid hc
  have HC' := Lib.hid hc'
  have HL := Lib.hid hl
  have HL' := Lib.hid hl'
  clear hv hp hq hc hc' hl hl'
  by_cases hpn : fa < i ∨ fb < j
  · have PE := Lib.hid (pend_one (a := a) (b := b) hpn)
    have s1 := fun w => run_mid p a.length cap fa i hfi (by have := HL.out; omega) w
    have s2 := fun w => run_mid q b.length cap' fb j hfj (by have := HL'.out; omega) w
    have S1 := Lib.hid (HP.out.mid fa i cap hfi hi HL.out)
    have S2 := Lib.hid (HQ.out.mid fb j cap' hfj hj HL'.out)
    have e1 := mid_size a fa i hi
    have e2 := mid_size b fb j hj
    have K1 := fun (W : World) (h : Sts W (sAt p fa cap) (mid a fa i)) => clone_any (sAt p fa cap) (mid a fa i) (i - fa) (cap - fa) W e1.symm h (fun h => sAt_none HC.out h) (by omega)
    have K2 := fun (W : World) (h : Sts W (sAt q fb cap') (mid b fb j)) => clone_any (sAt q fb cap') (mid b fb j) (j - fb) (cap' - fb) W e2.symm h (fun h => sAt_none HC'.out h) (by omega)
    have t1 := cell_block_lt c1
    have t2 := cell_block_lt c2
    have t3 := cell_block_lt ca
    have t4 := cell_block_lt cb
    have y1 := World.new_ne w ⟨f1, 0, none⟩ c1
    have y2 := World.new_ne w ⟨f2, 0, none⟩ c2
    have y3 := World.new_ne w ⟨g1, 0, none⟩ ca
    have y4 := World.new_ne w ⟨g2, 0, none⟩ cb
    go_enter Try.func34, Try.ntmps34
    have hor : decide (fa < i) = true ∨ decide (fa < i) = false ∧ decide (fb < j) = true := by
      by_cases h : fa < i
      · exact .inl (by simpa using h)
      · exact .inr ⟨by simpa using h, by simp; omega⟩
    clear hpn
    have E1 := Lib.hid e1
    have E2 := Lib.hid e2
    have HZ : Hid (Hz (w.alloc (.cells #[.int .i64 0, .slice none 0 0, .slice none 0 0] 67 (0, 0))).drew w.heap.size) := Lib.hid (Hz.new w 67).drew
    clear e1 e2
    rcases hor with h1 | ⟨h1, h2⟩
    case' inl => go_wp2_with fail
    case' inr => go_wp2_with fail
    all_goals
      go_region_held3 (fun w' => w'.cell? ⟨f1, 0, none⟩ = some (.int .i64 (fa : Int)) ∧ w'.cell? ⟨f2, 0, none⟩ = some (.int .i64 (fb : Int)) ∧ w'.cell? ⟨g1, 0, none⟩ = some (.slice p a.length cap) ∧ w'.cell? ⟨g2, 0, none⟩ = some (.slice q b.length cap')) (go_keep)
        (first
          | (go_at_call_of 35 (sAt p fa cap)
             refine (K1 _ (by first | exact S1.out.mono (Below.refl _ _).drew | exact S1.out.mono ((Below.refl _ _).alloc (Nat.le_refl _) _).drew)).mono ?_
             rintro e wA ⟨o1, o2, o3, rfl, ownA, hbA⟩
             have OA := Lib.hid ownA
             have BA : Hid (Below w.heap.size w wA) := Lib.hid (by first | exact (Below.refl _ _).drew.trans (hbA.mono (by simp)) | exact (((Below.refl _ _).alloc (Nat.le_refl _) _).drew).trans (hbA.mono (by simp)))
             have zA := BA.out.size
             have c1A := (BA.out.cell (p := ⟨f1, 0, none⟩) t1).trans c1
             have c2A := (BA.out.cell (p := ⟨f2, 0, none⟩) t2).trans c2
             have caA := (BA.out.cell (p := ⟨g1, 0, none⟩) t3).trans ca
             have cbA := (BA.out.cell (p := ⟨g2, 0, none⟩) t4).trans cb
             have t1A := cell_block_lt c1A
             have t2A := cell_block_lt c2A
             have t3A := cell_block_lt caA
             have t4A := cell_block_lt cbA
             have y1A := World.new_ne wA ⟨f1, 0, none⟩ c1A
             have y2A := World.new_ne wA ⟨f2, 0, none⟩ c2A
             have y3A := World.new_ne wA ⟨g1, 0, none⟩ caA
             have y4A := World.new_ne wA ⟨g2, 0, none⟩ cbA
             first | (have HZA := Lib.hid (HZ.out.up hbA)) | (have HZA := Lib.hid (Hz.new wA 67))
             clear ownA hbA)
          | (go_at_call_of 35 (sAt q fb cap')
             refine (K2 _ (by first | exact S2.out.mono BA.out | exact S2.out.mono (BA.out.alloc zA _))).mono ?_
             rintro e wB ⟨m1, m2, m3, rfl, ownB, hbB⟩
             have OB := Lib.hid ownB
             have BB : Hid (Below wA.heap.size wA wB) := Lib.hid (by first | exact hbB | exact ((Below.refl _ _).alloc (Nat.le_refl _) _).trans (hbB.mono (by simp)))
             have zB := BB.out.size
             have c1B := (BB.out.cell (p := ⟨f1, 0, none⟩) t1A).trans c1A
             have c2B := (BB.out.cell (p := ⟨f2, 0, none⟩) t2A).trans c2A
             have caB := (BB.out.cell (p := ⟨g1, 0, none⟩) t3A).trans caA
             have cbB := (BB.out.cell (p := ⟨g2, 0, none⟩) t4A).trans cbA
             have t1B := cell_block_lt c1B
             have t2B := cell_block_lt c2B
             have t3B := cell_block_lt caB
             have t4B := cell_block_lt cbB
             have y1B := World.new_ne wB ⟨f1, 0, none⟩ c1B
             have y2B := World.new_ne wB ⟨f2, 0, none⟩ c2B
             have y3B := World.new_ne wB ⟨g1, 0, none⟩ caB
             have y4B := World.new_ne wB ⟨g2, 0, none⟩ cbB
             first | (have HZB := Lib.hid (HZA.out.up hbB); obtain ⟨x0, x1, x2, x3, x4, x5, x6⟩ := HZB.out) | skip
             clear ownB hbB))
    all_goals first
      | (with_reducible show Exit.then _ _ Exit.normal _ (wB.alloc (.cells #[.int .i64 (fa : Int), .slice o1 o2 o3, .slice m1 m2 m3] 67 (0, 0)))
         have M : Hid (Made w (wB.alloc (.cells #[.int .i64 (fa : Int), .slice o1 o2 o3, .slice m1 m2 m3] 67 (0, 0))) (.slice o1 o2 o3) (.slice m1 m2 m3) (mid a fa i) (mid b fb j)) := Lib.hid ⟨(BA.out.trans (BB.out.mono zA)).alloc (by omega) _, ((OA.out.up BB.out).alloc _).le (by first | exact Nat.le_refl _ | simp | (simp; omega)), (OB.out.alloc _).le (by first | exact zA | (simp; omega))⟩
         have h0 : (wB.alloc (.cells #[.int .i64 (fa : Int), .slice o1 o2 o3, .slice m1 m2 m3] 67 (0, 0))).cell? ⟨wB.heap.size, 0, none⟩ = some (.int .i64 (fa : Int)) := by rw [World.cell?_alloc_mark]; rfl
         have h1' : (wB.alloc (.cells #[.int .i64 (fa : Int), .slice o1 o2 o3, .slice m1 m2 m3] 67 (0, 0))).cell? ⟨wB.heap.size, 1, none⟩ = some (.slice o1 o2 o3) := by rw [World.cell?_alloc_mark]; rfl
         have h2' : (wB.alloc (.cells #[.int .i64 (fa : Int), .slice o1 o2 o3, .slice m1 m2 m3] 67 (0, 0))).cell? ⟨wB.heap.size, 2, none⟩ = some (.slice m1 m2 m3) := by rw [World.cell?_alloc_mark]; rfl
         generalize wB.alloc (.cells #[.int .i64 (fa : Int), .slice o1 o2 o3, .slice m1 m2 m3] 67 (0, 0)) = G at M h0 h1' h2' ⊢
         generalize wB.heap.size = hb at h0 h1' h2' ⊢)
      | (with_reducible show Exit.then _ _ Exit.normal _ (((wB.setCell ⟨wA.heap.size, 0, none⟩ (.int .i64 (fa : Int))).setCell ⟨wA.heap.size, 1, none⟩ (.slice o1 o2 o3)).setCell ⟨wA.heap.size, 2, none⟩ (.slice m1 m2 m3))
         have MB : Made w wB (.slice o1 o2 o3) (.slice m1 m2 m3) (mid a fa i) (mid b fb j) := ⟨BA.out.trans (BB.out.mono zA), (OA.out.up BB.out).le (by first | exact Nat.le_refl _ | simp | (simp; omega)), OB.out.le (by first | exact zA | (simp; omega))⟩
         have M : Hid (Made w (((wB.setCell ⟨wA.heap.size, 0, none⟩ (.int .i64 (fa : Int))).setCell ⟨wA.heap.size, 1, none⟩ (.slice o1 o2 o3)).setCell ⟨wA.heap.size, 2, none⟩ (.slice m1 m2 m3)) (.slice o1 o2 o3) (.slice m1 m2 m3) (mid a fa i) (mid b fb j)) := Lib.hid (((MB.set zA (fun z hz => by have := own_block OA.out z hz; omega) (fun z hz => by have := own_block OB.out z hz; simp at this; omega) _).set zA (fun z hz => by have := own_block OA.out z hz; omega) (fun z hz => by have := own_block OB.out z hz; simp at this; omega) _).set zA (fun z hz => by have := own_block OA.out z hz; omega) (fun z hz => by have := own_block OB.out z hz; simp at this; omega) _)
         obtain ⟨h0, h1', h2'⟩ := HZB.out.set3 (.int .i64 (fa : Int)) (.slice o1 o2 o3) (.slice m1 m2 m3)
         clear MB
         generalize (((wB.setCell ⟨wA.heap.size, 0, none⟩ (.int .i64 (fa : Int))).setCell ⟨wA.heap.size, 1, none⟩ (.slice o1 o2 o3)).setCell ⟨wA.heap.size, 2, none⟩ (.slice m1 m2 m3)) = G at M h0 h1' h2' ⊢
         generalize wA.heap.size = hb at h0 h1' h2' ⊢)
      | (with_reducible show Exit.then _ _ Exit.normal _ (((wB.setCell ⟨w.heap.size, 0, none⟩ (.int .i64 (fa : Int))).setCell ⟨w.heap.size, 1, none⟩ (.slice o1 o2 o3)).setCell ⟨w.heap.size, 2, none⟩ (.slice m1 m2 m3))
         have MB : Made w wB (.slice o1 o2 o3) (.slice m1 m2 m3) (mid a fa i) (mid b fb j) := ⟨BA.out.trans (BB.out.mono zA), (OA.out.up BB.out).le (by first | exact Nat.le_refl _ | simp | (simp; omega)), OB.out.le (by first | exact zA | (simp; omega))⟩
         have M : Hid (Made w (((wB.setCell ⟨w.heap.size, 0, none⟩ (.int .i64 (fa : Int))).setCell ⟨w.heap.size, 1, none⟩ (.slice o1 o2 o3)).setCell ⟨w.heap.size, 2, none⟩ (.slice m1 m2 m3)) (.slice o1 o2 o3) (.slice m1 m2 m3) (mid a fa i) (mid b fb j)) := Lib.hid (((MB.set (Nat.le_refl _) (fun z hz => by have := own_block OA.out z hz; simp at this; omega) (fun z hz => by have := own_block OB.out z hz; have := HZA.out.lt; omega) _).set (Nat.le_refl _) (fun z hz => by have := own_block OA.out z hz; simp at this; omega) (fun z hz => by have := own_block OB.out z hz; have := HZA.out.lt; omega) _).set (Nat.le_refl _) (fun z hz => by have := own_block OA.out z hz; simp at this; omega) (fun z hz => by have := own_block OB.out z hz; have := HZA.out.lt; omega) _)
         obtain ⟨h0, h1', h2'⟩ := HZB.out.set3 (.int .i64 (fa : Int)) (.slice o1 o2 o3) (.slice m1 m2 m3)
         clear MB
         generalize (((wB.setCell ⟨w.heap.size, 0, none⟩ (.int .i64 (fa : Int))).setCell ⟨w.heap.size, 1, none⟩ (.slice o1 o2 o3)).setCell ⟨w.heap.size, 2, none⟩ (.slice m1 m2 m3)) = G at M h0 h1' h2' ⊢
         have hb' : ∃ hb, hb = w.heap.size := ⟨_, rfl⟩)
    all_goals
      have hpb : pg < w.heap.size := by omega
      have pc : G.cell? ⟨pg, 0, none⟩ = some v := by rw [M.out.bel.cell (p := ⟨pg, 0, none⟩) hpb, HV.out.pc]
      have pf : G.frozen? ⟨pg, 0, none⟩ = false := by rw [M.out.bel.frozen (p := ⟨pg, 0, none⟩) hpb, HV.out.pf]
      have hvp : v.ownBlock ≠ some pg := fun e => by have := own_block HV.out.own _ e; omega
      have GV := Lib.hid (HV.out.up M.out.bel)
      have hGC : C ≤ G.heap.size := by have := M.out.bel.size; omega
      clear K1 K2 s1 s2 S1 S2 HZ y1 y2 y3 y4 E1 E2
      go_wp2_with (at_builtin; refine wp_appE_at hkE rfl (.tmp 31) (.tmp 33) rfl C v (qs.map Q.raw) ((fa : Int), (o1, o2, o3), (m1, m2, m3)) _ _ rfl (GV.out.own.alloc _) rfl (hunk_one _ _ (o1, o2, o3) (m1, m2, m3) _) (by simp [hkE]; omega) (by simp; omega) (by simp; omega) ?_; intro v2 w2 own2 gr2 hat2
                   obtain ⟨gg, cc, rfl⟩ := own_succ (m := qs.length) own2 (by simp)
                   have G2 : World.grownBy G w2 v.ownBlock := by refine grow_trans ?_ gr2; exact ⟨rfl, rfl, rfl, by simp, fun k hk _ => Below.heap_alloc _ _ _ hk⟩
                   have z1 := G2.cell pc (Ne.symm hvp)
                   have z2 : w2.frozen? ⟨pg, 0, none⟩ = false := by rw [G2.frozen_far ⟨pg, 0, none⟩ (by dsimp only; omega) (Ne.symm hvp), pf])
      have PU := Lib.hid (pushed (o := (o1, o2, o3)) (n := (m1, m2, m3)) HI.out HV.out M.out HP.out.small HQ.out.small la lb gr2 own2 hat2 d1 d2 d3 d4 n1 n2 n3 n4)
      clear own2 gr2 hat2 G2
      go_wp2_with fail
      go_returns
      exact ⟨rfl, _, PU.out.1, by rw [PE.out, List.map_append]; rfl, PU.out.2⟩
  · have PE := Lib.hid (pend_none (a := a) (b := b) hpn)
    have h1 : decide (fa < i) = false := by simp; omega
    have h2 : decide (fb < j) = false := by simp; omega
    clear hpn
    go_enter Try.func34, Try.ntmps34
    go_wp2_with fail
    go_returns
    exact ⟨rfl, qs, HI.out, by rw [PE.out, List.append_nil], Only.refl _ _ _⟩
end Go.Proofs.Ytkfloglpihbdjaa
