
/-
  slices.Collect at the values of a slice of operations.
-/
import Derived.Test.YtidncnhhjfdifaaSqH
import Derived.Test.YtidncnhhjfdifaaRng2
import Derived.Maps.AppendAt
namespace Go.Proofs.Ytidncnhhjfdifaa
open Go.RowKit Go.Shelf
set_option maxRecDepth 4000
attribute [local go_sem] Oper.semAt_some

structure StopQ (p : Prop) : Prop where
  out : p
/-- what the loop of AppendSeq keeps: g: the block of its own slice -/
structure AI (w : World) (g : Nat) (l : List Sq.O) (k : Nat) (W : World) : Prop where
  box : ∃ v, Boxed W g 41 v ∧ OwnE opE g W v (l.take k)
  bel : Below g w W
  size : g + 1 ≤ W.heap.size
theorem ownE_ne {B base : Nat} {W : World} {v : Value} {l : List Sq.O} (h : OwnE opE base W v l) (hB : B < base) : some B ≠ v.ownBlock := by
  rcases h.2 with ⟨rfl, _⟩ | ⟨k, cap, cur, rfl, hk, _⟩
  · simp [Value.ownBlock]
  · intro e; have : B = k := by simpa [Value.ownBlock] using e
    omega
theorem AI.own {w : World} {g B : Nat} {l : List Sq.O} (hB : g < B) : OwnFrom B (AI w g l) := by
  rintro k A C row ⟨⟨u, hb, ho⟩, hl, hz⟩ hg hr
  have hr' : ∀ r, row = some r → ∃ o : Obj, A.heap[r]? = some o ∧ o.isCells = false := fun r e => (hr r e).2
  refine ⟨⟨u, hb.kept hg ?_, ho.kept hg ?_⟩, hl.grown hg (by omega) (fun k e => by have := (hr k e).1; omega), Nat.le_trans hz hg.size⟩
  · intro e
    have := (hr _ e.symm).1
    omega
  · rcases ho.2 with ⟨rfl, _⟩ | ⟨k, cap, cur, rfl, hk, hgb, _⟩
    · exact .inl rfl
    · refine .inr fun e => ?_
      obtain ⟨o, h3, h4⟩ := hr' k (by simpa [Value.ownBlock] using e.symm)
      rw [hgb] at h3; cases h3; cases h4
/-- the block of the loop's variable -/
structure OpBx (W : World) (B : Nat) (x : Sq.O) : Prop where
  blk : W.heap[B]? = some (.cells #[.bool x.del, .int .i64 x.rep, .int .i64 x.cnt, .int .i64 x.arep, .int .i64 x.acnt, .string x.line] 53 (0, 0))
theorem OpBx.b {W : World} {B : Nat} {x : Sq.O} (h : OpBx W B x) : OpB W B x := by
  have hb := h.blk
  refine ⟨?_, ?_, ?_, ?_, ?_, ?_, (Array.getElem?_eq_some_iff.1 hb).1⟩
  all_goals simp [World.cell?, hb]
theorem OpBx.own {B n : Nat} {x : Sq.O} : OwnFrom n (fun (_ : Unit) W => OpBx W B x) := by
  rintro _ A C row ⟨h⟩ hg hr
  refine ⟨(hg.block B (Array.getElem?_eq_some_iff.1 h).1 ?_).trans h⟩
  intro e
  obtain ⟨o, h3, h4⟩ := (hr _ e.symm).2
  rw [h] at h3; cases h3; cases h4
/-- 'append(v, y)', within a round -/
theorem wpIn_appE {α : Type} (e : Enc α) {F : Fence} {n : Nat} {ops : Array Oper} {rest : List Oper} {o : Oper} {a : Act} {Q : Exit → Act → World → Prop} {w : World} (hgd : o.guard = none) (s x : Operand)
    (ho : o.op = .call { callee := .builtin .append, args := #[s, x], argTypes := #[e.sl, e.sl] })
    (base : Nat) (v : Value) (l : List α) (y : α) (ad : Addr) (cap : Nat) (hs : a.eval s = v) (hown : OwnE e base w v l) (hx : a.eval x = .slice (some ad) 1 cap)
    (hp : ∀ k u, (e.enc y)[k]? = some u → w.cell? (ad.add k) = some u)
    (hlen : (l.length + 1) * e.bytes ≤ 140737488355328) (hm : l.length < 1000000000) (hbase : base ≤ w.heap.size)
    (h : ∀ v' w', OwnE e base w' v' (l ++ [y]) → w.grownBy w' v.ownBlock → wpListIn F n Try.prog ops Q rest (a.put o.dst v') w') : wpListIn F n Try.prog ops Q (o :: rest) a w := by
  obtain ⟨i0, hi, hz0, hz1, hz2⟩ := info_parts e.inf
  refine wpListIn_append_own _ hgd s x e.sl ho base e.ty i0 e.z e.size e.bytes e.und hi hz0 hz1 hz2 e.zs e.pos v l.length (l.flatMap e.enc) hs hown ad 1 cap (e.enc y) hx (by rw [e.len, Nat.one_mul]) hp (e.one y) (by unfold maxLen; omega) hlen hbase ?_
  intro v' w' h1 h2 _
  refine h v' w' ?_ h2
  unfold OwnE
  rw [List.length_append, List.flatMap_append]
  simpa using h1
theorem boxO_at (W : World) (x : Sq.O) (k : Nat) (u : Value) (h : (opE.enc x)[k]? = some u) : (boxO W x).cell? ((⟨W.heap.size, 0, none⟩ : Addr).add k) = some u := by
  rw [add_at, Nat.zero_add]
  unfold boxO
  rw [World.cell?_alloc_mark]
  simpa [opE, Sq.O.enc] using h
set_option maxRecDepth 100000 in
set_option maxHeartbeats 4000000 in
theorem appendSeq_any (p : Option Addr) (l : List Sq.O) (cap : Nat) (hl : l.length ≤ 1000000) (bn : Nat) (w : World) (hb : bn < w.heap.size) (hc : w.cell? ⟨bn, 0, none⟩ = some (.slice p l.length cap)) (hp : Row opE w p l) :
    Calls Try.prog 115 #[.slice none 0 0, .func (.func 107) #[] #[.pointer (some ⟨bn, 0, none⟩)]] w fun e w' => ∃ v, e = .returned v ∧ OwnE opE w.heap.size w' v l ∧ Below w.heap.size w w' := by
  refine (callsIn_wide (n := 9)).1 ?_
  refine callsIn_of_wp_marks Try.func115 rfl trivial ?_ rfl
  simp only [Try.ntmps115, List.size_toArray, List.length_cons, List.length_nil, Nat.reduceAdd, Nat.reduceSub, Array.replicate_succ, Array.replicate_zero, List.push_toArray, List.append_toArray, List.nil_append, List.cons_append]
  gi_wp2_with fail
  rename_i K hK
  have A0 : AI w w.heap.size l 0 (w.alloc (.cells #[.slice none 0 0] 41)) := ⟨⟨_, Boxed.new _ _ _, by rw [List.take_zero]; exact ownE_nil _ _ _⟩, up_alloc (Below.refl _ _) _, by simp⟩
  refine Rng.law2 (gf := 107) (lb := #[.pointer (some ⟨bn, 0, none⟩)]) rfl (enters_of Try.func107 (by kernel_rfl) rfl) (encs := fun x : Sq.O => #[x.v]) (fun _ => rfl)
    (values_iter 9 p l cap (by omega) bn (AI w w.heap.size l) (fun k W h => (h.bel.cell (p := ⟨bn, 0, none⟩) hb).trans hc) (fun k W h => hp.mono h.bel) (fun k W c t h => AI.own (B := w.heap.size + 1) (by omega) k W _ none h (World.grownBy_alloc _ _ _) (fun r e => by cases e)))
    (AI.own (by simp)) A0
    (fun k x a₁ W => ∃ B, a₁ = { tmps := #[.slice none 0 0, .func (.func 107) #[] #[.pointer (some ⟨bn, 0, none⟩)], .pointer (some ⟨w.heap.size, 0, none⟩), undef, .slice none 0 0, .pointer (some ⟨B, 0, none⟩), .func (.func 107) #[] #[.pointer (some ⟨bn, 0, none⟩)], x.v, undef, undef, undef, undef, undef], defers := [] } ∧ OpBx W B x)
    ?hax ?assign ?body ?done
  case hax =>
    rintro s x a₁ u A B row ⟨Bk, rfl, h⟩ hg hr
    exact ⟨Bk, rfl, OpBx.own () A B row h hg hr⟩
  case assign =>
    intro lo k x W K2 _ hJ hK2
    unfold Sq.O.v at hK2 ⊢
    gi_wp2
    refine hK2 _ _ (KeepsOthers.alloc _ _) (AI.own (B := w.heap.size + 1) (by omega) k W _ none hJ (World.grownBy_alloc _ _ _) (fun r e => by cases e)) ⟨W.heap.size, rfl, ⟨World.alloc_heap_new W _⟩⟩
  case body =>
    rintro lo k x a₁ W ⟨hk, hx⟩ hJ ⟨B, rfl, hB⟩
    obtain ⟨⟨v, hbx, how⟩, hbel, hz⟩ := hJ
    have hc1 := hbx.cell
    have hf1 := hbx.frozen
    obtain ⟨c0, c1, c2, c3, c4, c5, _⟩ := hB.b
    obtain ⟨L, hL⟩ : ∃ L, L = l.take k := ⟨_, rfl⟩
    have hLl : L.length ≤ 1000000 := by rw [hL, List.length_take]; omega
    rw [← hL] at how
    have HL := Lib.hid hL
    have HW := Lib.hid how
    have HBX := Lib.hid hbx
    have HBL := Lib.hid hbel
    have HX := Lib.hid hx
    clear how hbx hbel hx hL
    gi_wp2_with (gi_at_builtin; refine StopQ.out ?_)
    refine ⟨?_⟩
    refine wpIn_appE opE rfl _ _ rfl w.heap.size v L x ⟨W.heap.size, 0, none⟩ 1 rfl (HW.out.alloc _) rfl (boxO_at W x) (by show _ * 56 ≤ _; omega) (by omega) (by simp; omega) ?_
    intro v' w1 own1 gr1
    obtain ⟨q1, q2, q3, q4, q5⟩ := HBX.out.appended (by decide) HW.out (by omega) (Nat.le_refl _) own1 gr1
    have hc2 := q1.cell
    have hf2 := q1.frozen
    obtain ⟨g', cap', rfl⟩ := ownsRow_succ (k := L.length) (by have := own1; unfold OwnE at this; rw [List.length_append] at this; exact this)
    gi_wp2_with fail
    refine ⟨q4.from _, ⟨_, q2, ?_⟩, HBL.out.trans q5, ?_⟩
    · rw [List.take_succ_eq_append_getElem hk, ← HX.out, ← HL.out]
      exact q3
    · have := q5.size; omega
  case done =>
    rintro D s W hD rfl ⟨⟨v, hbx, how⟩, hbel, hz⟩ hdef
    have hc1 := hbx.cell
    rw [List.take_length] at how
    gi_wp2
    refine ⟨by simp, .inl ⟨_, _, rfl, run_takeDeferred hdef, ?_⟩⟩
    refine ⟨v, (by simp [results, Try.results115, go_sem]), v, rfl, ownsRow_putObj how _ hdef rfl, ?_⟩
    exact hbel.trans (belowK_b (w := w) (Nat.le_refl _) W D _ _ (by simp at hD; omega) hdef rfl rfl)
theorem collect_any (p : Option Addr) (l : List Sq.O) (cap : Nat) (hl : l.length ≤ 1000000) (bn : Nat) (w : World) (hb : bn < w.heap.size) (hc : w.cell? ⟨bn, 0, none⟩ = some (.slice p l.length cap)) (hp : Row opE w p l) :
    Calls Try.prog 105 #[.func (.func 107) #[] #[.pointer (some ⟨bn, 0, none⟩)]] w fun e w' => ∃ v, e = .returned v ∧ OwnE opE w.heap.size w' v l ∧ Below w.heap.size w w' := by
  have HA := Lib.hid (appendSeq_any p l cap hl bn w hb hc hp)
  clear hp hc
  go_enter Try.func105, Try.ntmps105
  go_wp2_with (go_at_call 115; refine HA.out.mono ?_; rintro e w' ⟨v, rfl, ho, hbl⟩)
  go_returns
  exact ⟨v, rfl, ho, hbl⟩
end Go.Proofs.Ytidncnhhjfdifaa
