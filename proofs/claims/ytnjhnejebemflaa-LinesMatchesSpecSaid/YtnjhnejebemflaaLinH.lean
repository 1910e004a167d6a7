/-
  lines.Split, walked.
-/
import Derived.Test.YtnjhnejebemflaaLinI
namespace Go.Proofs.Ytnjhnejebemflaa
open Go.RowKit Go.Shelf
attribute [local go_sem] Oper.semAt_some

theorem lines_mk (s : ByteArray) (w : World) : Calls Try.prog 21 #[.string s] w fun e w' => e = .returned (.func (.func 32) #[] #[.pointer (some ⟨w.heap.size, 0, none⟩)]) ∧ w' = w.alloc (.cells #[.string s] 9) := by
  go_enter Try.func21, Try.ntmps21
  go_wp2
  go_ret
  exact ⟨rfl, rfl⟩
theorem trim_any (s : ByteArray) (w : World) (hs : s.size ≤ 9223372036854775807) : Calls Try.prog 22 #[.string s, .string ⟨#[10]⟩] w fun e w' => e = .returned (.string (tr s)) ∧ w = w' :=
  (Try.strings_TrimSuffix s ⟨#[10]⟩ w hs).mono fun _ _ h => ⟨h.1, h.2.symm⟩

/-- what the loop of Split keeps: g0 the result's block; g0 + 1 the variable's box; g0 + 2 the iterator's -/
structure SI (w : World) (g : Nat) (pre : List ByteArray) (W : World) : Prop where
  box : ∃ v, Boxed W (g + 1) 22 v ∧ OwnS (g + 3) W v (pre.map tr)
  flt : Flt W g 0 0
  bel : Below g w W
  size : g + 3 ≤ W.heap.size
  len : pre.length ≤ 4096
  small : ∀ x ∈ pre, (tr x).size ≤ 4096

theorem SI.set {w : World} {g : Nat} {pre : List ByteArray} {W : World} (h : SI w g pre W) (v : Value) : SI w g pre (W.setCell ⟨g + 2, 0, none⟩ v) := by
  obtain ⟨⟨u, hb, ho⟩, hf, hl, hz, h1, h2⟩ := h
  have hg := grownBy_setCell' W (g + 2) v
  refine ⟨⟨u, hb.kept hg (by simp), ho.kept hg ?_⟩, ?_, hl.setCell (by simp) _, by rw [World.size_setCell]; exact hz, h1, h2⟩
  · rcases ho.2 with ⟨rfl, _⟩ | ⟨k, cap, cur, rfl, hk, _⟩
    · exact .inl rfl
    · exact .inr (by simp [Value.ownBlock]; omega)
  · have n : ∀ k, (⟨g + 2, 0, none⟩ : Addr) ≠ ⟨g, k, none⟩ := fun k e => by injection e with e; omega
    refine ⟨?_, ?_, ?_, ?_, ?_⟩
    · rw [World.cell?_setCell_other (h := n _), hf.c0]
    · rw [World.cell?_setCell_other (h := n _), hf.c1]
    · rw [World.frozen?_setCell, hf.f0]
    · rw [World.frozen?_setCell, hf.f1]
    · rw [World.size_setCell]; exact hf.lt
theorem SI.drew {w : World} {g : Nat} {pre : List ByteArray} {W : World} (h : SI w g pre W) : SI w g pre W.drew := by
  obtain ⟨⟨u, hb, ho⟩, hf, hl, hz, h1, h2⟩ := h
  exact ⟨⟨u, hb, ho⟩, ⟨hf.c0, hf.c1, hf.f0, hf.f1, hf.lt⟩, hl.drew, hz, h1, h2⟩
theorem SI.own {w : World} {g : Nat} : OwnFrom (g + 3) (SI w g) := by
  rintro pre A B row ⟨⟨u, hb, ho⟩, hf, hl, hz, h1, h2⟩ hg hr
  have hr' : ∀ r, row = some r → ∃ o : Obj, A.heap[r]? = some o ∧ o.isCells = false := fun r e => (hr r e).2
  refine ⟨⟨u, hb.kept hg ?_, ho.kept hg ?_⟩, ⟨cell_kept hf.c0 hg hr', cell_kept hf.c1 hg hr', (frozen_kept hf.c0 hg hr').trans hf.f0, (frozen_kept hf.c1 hg hr').trans hf.f1, Nat.lt_of_lt_of_le hf.lt hg.size⟩, hl.grown hg (by omega) (fun k e => by have := (hr k e).1; omega), Nat.le_trans hz hg.size, h1, h2⟩
  · intro e
    obtain ⟨o, h3, h4⟩ := hr' _ e.symm
    rw [show A.heap[g + 1]? = _ from hb] at h3; cases h3; cases h4
  · rcases ho.2 with ⟨rfl, _⟩ | ⟨k, cap, cur, rfl, hk, hgb, _⟩
    · exact .inl rfl
    · refine .inr fun e => ?_
      obtain ⟨o, h3, h4⟩ := hr' k (by simpa [Value.ownBlock] using e.symm)
      rw [hgb] at h3; cases h3; cases h4
theorem SI.bx {w : World} {g : Nat} : OwnFrom (g + 3) (Bx (SI w g) (g + 2)) := by
  rintro s A B row ⟨hi, hc, hf⟩ hg hr
  have hr' : ∀ r, row = some r → ∃ o : Obj, A.heap[r]? = some o ∧ o.isCells = false := fun r e => (hr r e).2
  exact ⟨SI.own s.1 A B row hi hg hr, cell_kept hc hg hr', (frozen_kept hc hg hr').trans hf⟩

theorem own_ne {B base : Nat} {W : World} {v : Value} {l : List ByteArray} (h : OwnS base W v l) (hB : B < base) : some B ≠ v.ownBlock := by
  rcases h.2 with ⟨rfl, _⟩ | ⟨k, cap, cur, rfl, hk, _⟩
  · simp [Value.ownBlock]
  · intro e; have : B = k := by simpa [Value.ownBlock] using e
    omega
theorem cell_of_same {W W' : World} {b : Nat} (h : W'.heap[b]? = W.heap[b]?) (j : Nat) : W'.cell? ⟨b, j, none⟩ = W.cell? ⟨b, j, none⟩ ∧ W'.frozen? ⟨b, j, none⟩ = W.frozen? ⟨b, j, none⟩ := by
  constructor
  · simp only [World.cell?, h]
  · simp only [World.frozen?, h]

/-- behind 'lines = append(lines, ..)' -/
theorem SI.app {w : World} {g : Nat} {pre : List ByteArray} {W w1 : World} {v v' : Value} {x : ByteArray} {tmp : Obj} (h : SI w g pre W) (hb : Boxed W (g + 1) 22 v) (ho : OwnS (g + 3) W v (pre.map tr))
    (hown : OwnS (g + 3) w1 v' (pre.map tr ++ [tr x])) (hgrow : (W.alloc tmp).grownBy w1 v.ownBlock) (hl : pre.length + 1 ≤ 4096) (hx : (tr x).size ≤ 4096) :
    Boxed w1 (g + 1) 22 v ∧ KeepsOthers W (w1.setCell ⟨g + 1, 0, none⟩ v') ∧ SI w g (pre ++ [x]) (w1.setCell ⟨g + 1, 0, none⟩ v') ∧
    (w1.setCell ⟨g + 1, 0, none⟩ v').cell? ⟨g + 2, 0, none⟩ = W.cell? ⟨g + 2, 0, none⟩ ∧ (w1.setCell ⟨g + 1, 0, none⟩ v').frozen? ⟨g + 2, 0, none⟩ = W.frozen? ⟨g + 2, 0, none⟩ := by
  have hz := h.size
  have hv1 : Boxed w1 (g + 1) 22 v := (hb.alloc tmp).kept hgrow (own_ne ho (by omega))
  have keep : ∀ j, j < g + 3 → w1.heap[j]? = W.heap[j]? := fun j hj => (hgrow.block j (by simp; omega) (own_ne ho hj)).trans (Below.heap_alloc _ _ j (by omega))
  have hsz : W.heap.size + 1 ≤ w1.heap.size := by have := hgrow.size; simpa using this
  have n1 : ∀ j k, j ≠ g + 1 → (⟨g + 1, 0, none⟩ : Addr) ≠ ⟨j, k, none⟩ := fun j k hj e => hj (by injection e with e; exact e.symm)
  have far : ∀ j k, j < g + 3 → j ≠ g + 1 → (w1.setCell ⟨g + 1, 0, none⟩ v').cell? ⟨j, k, none⟩ = W.cell? ⟨j, k, none⟩ ∧ (w1.setCell ⟨g + 1, 0, none⟩ v').frozen? ⟨j, k, none⟩ = W.frozen? ⟨j, k, none⟩ := fun j k hj hne =>
    ⟨by rw [World.cell?_setCell_other (h := n1 j k hne)]; exact (cell_of_same (keep j hj) k).1, by rw [World.frozen?_setCell]; exact (cell_of_same (keep j hj) k).2⟩
  refine ⟨hv1, ?_, ⟨⟨v', hv1.set v', ?_⟩, ?_, ?_, ?_, ?_, ?_⟩, (far (g + 2) 0 (by omega) (by omega)).1, (far (g + 2) 0 (by omega) (by omega)).2⟩
  · refine ((KeepsOthers.alloc W tmp).trans (KeepsOthers.of_grownBy hgrow fun j o ej hj => ?_)).trans (KeepsOthers.setCell _ _ _)
    rcases (ho.alloc tmp).2 with ⟨rfl, _⟩ | ⟨k, cap, cur, rfl, _, hgb, _⟩
    · simp [Value.ownBlock] at ej
    · obtain rfl : k = j := by simpa [Value.ownBlock] using ej
      rw [hgb] at hj; cases hj; rfl
  · rw [List.map_append, List.map_singleton]
    exact hown.kept (grownBy_setCell' w1 (g + 1) v') (.inr (own_ne hown (by omega)).symm)
  · exact ⟨(far g 0 (by omega) (by omega)).1.trans h.flt.c0, (far g 1 (by omega) (by omega)).1.trans h.flt.c1, (far g 0 (by omega) (by omega)).2.trans h.flt.f0, (far g 1 (by omega) (by omega)).2.trans h.flt.f1, by rw [World.size_setCell]; omega⟩
  · exact (((h.bel.alloc (by omega) tmp).grown hgrow (by simp; omega) (fun k e => by have := (ho.lt k e).1; omega))).setCell (by simp) _
  · rw [World.size_setCell]; omega
  · simp; omega
  · intro y hy
    rcases List.mem_append.1 hy with hy | hy
    · exact h.small y hy
    · rw [List.mem_singleton.1 hy]; exact hx

theorem tr_size (x : ByteArray) : (tr x).size ≤ x.size := by
  unfold tr
  rw [Lin.mk_size, ← dat_len x]
  unfold Lib.trimSuffix
  split
  · exact Nat.le_trans (List.length_take_le _ _) (Nat.sub_le _ _)
  · exact Nat.le_refl _

/-- the append of a region that draws, within a round -/
theorem step_app {F : Fence} {n : Nat} {ops : Array Oper} {o : Oper} {a : Act} {w : World} {K : Act → World → Prop} {Q : Exit → Act → World → Prop} {E : Prop}
    (hg : o.guard = none) (s x : Operand) (hop : o.op = .call { callee := .builtin .append, args := #[s, x], argTypes := #[22, 22] })
    (base : Nat) (v : Value) (l : List ByteArray) (y : ByteArray) (g c : Nat) (hs : a.eval s = v) (hown : OwnS base w v l) (hx : a.eval x = .slice (some ⟨g, 0, none⟩) 1 c) (hy : w.cell? ⟨g, 0, none⟩ = some (.string y))
    (hlen : l.length + 1 ≤ 8796093022208) (hbase : base ≤ w.heap.size)
    (hK : ∀ v' w', OwnS base w' v' (l ++ [y]) → w.grownBy w' v.ownBlock → K (a.put o.dst v') w') :
    if Region.wanted o (yielded ops a.tmps) = true then Oper.wpIn F n Try.prog o a w K Q else E := by
  rw [if_pos (by simp [Region.wanted, hg])]
  obtain ⟨i0, hi, hz0, hz1, hz2⟩ := info_parts infoS
  obtain ⟨v', w', hrun, r1, r2, r3⟩ := run_append_own (P := Try.prog) w base 22 o.type 9 i0 (.string ByteArray.empty) 1 16 Try.underlying22 hi hz0 hz1 hz2 rfl (by decide) v l.length (l.map strv) hown ⟨g, 0, none⟩ 1 c [.string y] rfl
    (fun j u hj => by
      have h0 : j = 0 := by have := (List.getElem?_eq_some_iff.1 hj).1; simpa using this
      subst h0
      rw [add_spot, hy]; simpa using hj) (fun u hu => by rw [List.mem_singleton.1 hu]; rfl) (by unfold maxLen; omega) (by omega) hbase
  unfold Oper.wpIn
  refine ⟨?_, ?_⟩
  · simp [Oper.about, hop, resolve, Target.leads, Sem.run_pure]
  · rw [Oper.semAt_plain F _ _ (by rw [hop]; intro c hc'; cases hc')]
    simp [execOp, hop, resolve, invoke, builtin, hs, hx, hrun, Result.andThen]
    refine hK _ _ ?_ r2
    unfold OwnS
    rw [List.length_append, List.map_append]
    exact r1

theorem Sts.putObj {w : World} {p : Option Addr} {l : List ByteArray} (h : Sts w p l) {D : Nat} {o : Obj} (o' : Obj) (hD : w.heap[D]? = some o) (ho : o.isCells = false) : Sts (w.putObj D o') p l := by
  refine ⟨h.small, h.len, h.nil', fun hn => ?_⟩
  obtain ⟨b, off, rfl, hb, hc⟩ := h.at' hn
  exact ⟨b, off, rfl, by rw [World.putObj_size]; exact hb, fun i hi => cell_kept (hc i hi) (grownBy_putObj' w D o') (fun r e => by cases e; exact ⟨_, hD, ho⟩)⟩
/-- the end of a function that ranged over an iterator: the block for the rounds' deferred calls is shut -/
theorem fin_cells {w : World} {g D : Nat} {c i : Int} (h : Flt w g c i) (hD : w.heap[D]? = some (.deferred (some []))) :
    (w.putObj D (.deferred none)).cell? ⟨g, 0, none⟩ = some (.int .i64 c) ∧ (w.putObj D (.deferred none)).cell? ⟨g, 1, none⟩ = some (.int .i64 i) :=
  ⟨cell_kept h.c0 (grownBy_putObj' w D _) (fun r e => by cases e; exact ⟨_, hD, rfl⟩), cell_kept h.c1 (grownBy_putObj' w D _) (fun r e => by cases e; exact ⟨_, hD, rfl⟩)⟩

set_option maxRecDepth 100000 in
set_option maxHeartbeats 4000000 in
theorem split_big (s : ByteArray) (w : World) (hs : s.size ≤ 281474976710656) : Calls Try.prog 9 #[.string s] w (SPost (Lin.sL s) (Lin.sC s) (Lin.sI s) w) := by
  by_cases h1 : 4096 < s.size
  · have E := Lib.hid (s_long h1)
    have g0 : decide ((4096 : Int) < (s.size : Int)) = true := by rw [decide_eq_true_iff]; omega
    go_enter Try.func9, Try.ntmps9
    go_wp2_with fail
    refine bodyPost_ret (v := .tuple #[.slice none 0 0, .agg #[.int .i64 10, .int .i64 (-1)]]) (by simp [results, Try.results9, go_sem]) rfl ⟨none, 0, by rw [E.out.1, E.out.2.1, E.out.2.2]; rfl, by rw [E.out.1]; exact sts_nil _ _, ⟨by rw [E.out.1]; exact Nat.le_refl _, fun _ => rfl⟩, ?_⟩
    (repeat' (first | (with_reducible exact Below.refl _ _) | (with_reducible assumption) | (with_reducible refine below_drewN ?_ _) | (with_reducible refine Below.setCell ?_ ?_ _) | (with_reducible refine Below.alloc ?_ ?_ _) | (with_reducible refine Below.drew ?_) | go_size))
  · have g0 : decide ((4096 : Int) < (s.size : Int)) = false := by rw [decide_eq_false_iff_not]; omega
    have H1 := Lib.hid h1
    have hs4 : s.size ≤ 4096 := by omega
    clear h1
    refine (callsIn_wide (n := 9)).1 ?_
    refine callsIn_of_wp_marks Try.func9 rfl trivial ?_ rfl
    simp only [Try.ntmps9, List.size_toArray, List.length_cons, List.length_nil, Nat.reduceAdd, Nat.reduceSub, Array.replicate_succ, Array.replicate_zero, List.push_toArray, List.append_toArray, List.nil_append, List.cons_append]
    gi_wp2_with fail
    refine ⟨trivial, ?_⟩
    refine (callsIn_wide.2 (lines_mk s _)).mono ?_
    rintro e w' ⟨rfl, rfl⟩
    gi_wp2
    have h2 := (Flt.new w 0 0 24).alloc (.cells #[.slice none 0 0] 22)
    refine Rng.law (gf := 32) (lb := #[.pointer (some ⟨w.heap.size + 2, 0, none⟩)]) rfl (enters_of Try.func32 (by kernel_rfl) rfl) (encs := fun x : ByteArray => #[.string x]) (fun _ => rfl)
      (lines_iter 9 s hs4 (w.heap.size + 2) (SI w w.heap.size) (fun pre W v h => h.set v) (fun pre W h => h.drew)) (by simp; exact SI.bx) ?start (fun x => { tmps := #[.string s, undef, .slice none 0 0, .pointer (some ⟨w.heap.size, 0, none⟩), .pointer (some ⟨w.heap.size + 1, 0, none⟩), .string x, undef, .string s, .int .i64 s.size, .bool false, undef, .string s, .func (.func 32) #[] #[.pointer (some ⟨w.heap.size + 2, 0, none⟩)], .string x, undef, undef, undef, undef, undef, undef, undef, undef, undef, undef, undef, undef, undef], defers := [] }) ?assign ?body ?done
    case start =>
      refine ⟨⟨⟨.slice none 0 0, (Boxed.alloc (by have := Boxed.new (w.alloc (.cells #[.int .i64 0, .int .i64 0] 24 (0, 0))) 22 (.slice none 0 0); rwa [World.size_alloc] at this) _), ownS_nil _ _⟩, h2.alloc _, ?_, by simp, by simp, by simp⟩, ?_, ?_⟩
      · (repeat' (first | (with_reducible exact Below.refl _ _) | (with_reducible assumption) | (with_reducible refine below_drewN ?_ _) | (with_reducible refine Below.setCell ?_ ?_ _) | (with_reducible refine Below.alloc ?_ ?_ _) | (with_reducible refine Below.drew ?_) | go_size))
      · have hbs := Boxed.new ((w.alloc (.cells #[.int .i64 0, .int .i64 0] 24 (0, 0))).alloc (.cells #[.slice none 0 0] 22)) 9 (.string s)
        simp only [World.size_alloc] at hbs
        exact hbs.cell
      · have hbs := Boxed.new ((w.alloc (.cells #[.int .i64 0, .int .i64 0] 24 (0, 0))).alloc (.cells #[.slice none 0 0] 22)) 9 (.string s)
        simp only [World.size_alloc] at hbs
        exact hbs.frozen
    case assign =>
      intro l x W K hK
      gi_wp2
      exact hK
    case body =>
      rintro l ⟨pre, rest⟩ x W ⟨hy1, hy2⟩ hB
      have hI := hB.i
      dsimp only at hI hy1
      obtain ⟨⟨v, hbx, how⟩, -, -, hzz, -, -⟩ := hI
      have hc1 := hbx.cell
      have hf1 := hbx.frozen
      have hx : x.size ≤ 9223372036854775807 := by omega
      have hlb := hbx.lt
      have hpl : pre.length + 1 ≤ 4096 := by omega
      have htx : (tr x).size ≤ 4096 := Nat.le_trans (tr_size x) (by omega)
      have HI := Lib.hid hB
      have HO := Lib.hid how
      have HX := Lib.hid hbx
      clear hB how hbx
      gi_wp2
      refine wpIn_region_any (by kernel_rfl) ?_
      change wpAnyIn _ _ _ _ _ _ _ _ _ (World.drew _)
      refine wpAnyIn_ready (rs := [0, 1]) (by kernel_rfl) (by simp) ?_
      refine AllReadyIn.cons rfl (fun K hK => ?_) (AllReadyIn.cons rfl (fun K hK => ?_) AllReadyIn.nil)
      · go_simp
        refine hK _ _ ?_; clear hK K
        refine wpAnyIn_ready (rs := [1]) (by kernel_rfl) (by simp) ?_
        refine AllReadyIn.cons rfl (fun K hK => ?_) AllReadyIn.nil
        · go_simp
          refine hK _ _ ?_; clear hK K
          refine wpAnyIn_ready (rs := [2]) (by kernel_rfl) (by simp) ?_
          refine AllReadyIn.cons rfl (fun K hK => ?_) AllReadyIn.nil
          · go_simp
            refine ⟨trivial, ?_⟩
            refine (CallsIn.inRound l (callsIn_wide.2 (trim_any x _ hx))).mono ?_
            rintro e w' ⟨rfl, rfl⟩
            refine hK _ _ ?_; clear hK K
            refine wpAnyIn_ready (rs := [3]) (by kernel_rfl) (by simp) ?_
            refine AllReadyIn.cons rfl (fun K hK => ?_) AllReadyIn.nil
            · go_simp
              refine hK _ _ ?_; clear hK K
              refine wpAnyIn_ready (rs := [4]) (by kernel_rfl) (by simp) ?_
              refine AllReadyIn.cons rfl (fun K hK => ?_) AllReadyIn.nil
              refine step_app rfl (.tmp 14) (.tmp 17) rfl (w.heap.size + 3) v (pre.map tr) (tr x) W.heap.size 1 rfl (HO.out.alloc _) rfl (by simp) (by simp; omega) (by simp; omega) ?_
              intro v' w1 own1 gr1
              obtain ⟨bx1, kp1, si1, cc1, ff1⟩ := HI.out.i.app HX.out HO.out own1 ⟨gr1.1, gr1.2, gr1.3, gr1.4, gr1.5⟩ hpl htx
              obtain ⟨g', cap', rfl⟩ := ownsRow_succ (k := pre.length) (by have := own1; unfold OwnS at this; rw [List.length_append, List.length_map] at this; exact this)
              have hc2 := bx1.cell
              have hf2 := bx1.frozen
              refine hK _ _ ?_; clear hK K
              refine wpAnyIn_ready (rs := [5]) (by kernel_rfl) (by simp) ?_
              refine AllReadyIn.cons rfl (fun K hK => ?_) AllReadyIn.nil
              go_simp
              refine hK _ _ ?_; clear hK K
              refine wpAnyIn_done (by kernel_rfl) ?_ _
              exact ⟨kp1, si1, cc1.trans HI.out.c, ff1.trans HI.out.f⟩
      · go_simp
        refine hK _ _ ?_; clear hK K
        refine wpAnyIn_ready (rs := [0, 2]) (by kernel_rfl) (by simp) ?_
        refine AllReadyIn.cons rfl (fun K hK => ?_) (AllReadyIn.cons rfl (fun K hK => ?_) AllReadyIn.nil)
        · go_simp
          refine hK _ _ ?_; clear hK K
          refine wpAnyIn_ready (rs := [2]) (by kernel_rfl) (by simp) ?_
          refine AllReadyIn.cons rfl (fun K hK => ?_) AllReadyIn.nil
          · go_simp
            refine ⟨trivial, ?_⟩
            refine (CallsIn.inRound l (callsIn_wide.2 (trim_any x _ hx))).mono ?_
            rintro e w' ⟨rfl, rfl⟩
            refine hK _ _ ?_; clear hK K
            refine wpAnyIn_ready (rs := [3]) (by kernel_rfl) (by simp) ?_
            refine AllReadyIn.cons rfl (fun K hK => ?_) AllReadyIn.nil
            · go_simp
              refine hK _ _ ?_; clear hK K
              refine wpAnyIn_ready (rs := [4]) (by kernel_rfl) (by simp) ?_
              refine AllReadyIn.cons rfl (fun K hK => ?_) AllReadyIn.nil
              refine step_app rfl (.tmp 14) (.tmp 17) rfl (w.heap.size + 3) v (pre.map tr) (tr x) W.heap.size 1 rfl (HO.out.alloc _) rfl (by simp) (by simp; omega) (by simp; omega) ?_
              intro v' w1 own1 gr1
              obtain ⟨bx1, kp1, si1, cc1, ff1⟩ := HI.out.i.app HX.out HO.out own1 ⟨gr1.1, gr1.2, gr1.3, gr1.4, gr1.5⟩ hpl htx
              obtain ⟨g', cap', rfl⟩ := ownsRow_succ (k := pre.length) (by have := own1; unfold OwnS at this; rw [List.length_append, List.length_map] at this; exact this)
              have hc2 := bx1.cell
              have hf2 := bx1.frozen
              refine hK _ _ ?_; clear hK K
              refine wpAnyIn_ready (rs := [5]) (by kernel_rfl) (by simp) ?_
              refine AllReadyIn.cons rfl (fun K hK => ?_) AllReadyIn.nil
              go_simp
              refine hK _ _ ?_; clear hK K
              refine wpAnyIn_done (by kernel_rfl) ?_ _
              exact ⟨kp1, si1, cc1.trans HI.out.c, ff1.trans HI.out.f⟩
        · go_simp
          refine ⟨trivial, ?_⟩
          refine (CallsIn.inRound l (callsIn_wide.2 (trim_any x _ hx))).mono ?_
          rintro e w' ⟨rfl, rfl⟩
          refine hK _ _ ?_; clear hK K
          refine wpAnyIn_ready (rs := [0, 3]) (by kernel_rfl) (by simp) ?_
          refine AllReadyIn.cons rfl (fun K hK => ?_) (AllReadyIn.cons rfl (fun K hK => ?_) AllReadyIn.nil)
          · go_simp
            refine hK _ _ ?_; clear hK K
            refine wpAnyIn_ready (rs := [3]) (by kernel_rfl) (by simp) ?_
            refine AllReadyIn.cons rfl (fun K hK => ?_) AllReadyIn.nil
            · go_simp
              refine hK _ _ ?_; clear hK K
              refine wpAnyIn_ready (rs := [4]) (by kernel_rfl) (by simp) ?_
              refine AllReadyIn.cons rfl (fun K hK => ?_) AllReadyIn.nil
              refine step_app rfl (.tmp 14) (.tmp 17) rfl (w.heap.size + 3) v (pre.map tr) (tr x) W.heap.size 1 rfl (HO.out.alloc _) rfl (by simp) (by simp; omega) (by simp; omega) ?_
              intro v' w1 own1 gr1
              obtain ⟨bx1, kp1, si1, cc1, ff1⟩ := HI.out.i.app HX.out HO.out own1 ⟨gr1.1, gr1.2, gr1.3, gr1.4, gr1.5⟩ hpl htx
              obtain ⟨g', cap', rfl⟩ := ownsRow_succ (k := pre.length) (by have := own1; unfold OwnS at this; rw [List.length_append, List.length_map] at this; exact this)
              have hc2 := bx1.cell
              have hf2 := bx1.frozen
              refine hK _ _ ?_; clear hK K
              refine wpAnyIn_ready (rs := [5]) (by kernel_rfl) (by simp) ?_
              refine AllReadyIn.cons rfl (fun K hK => ?_) AllReadyIn.nil
              go_simp
              refine hK _ _ ?_; clear hK K
              refine wpAnyIn_done (by kernel_rfl) ?_ _
              exact ⟨kp1, si1, cc1.trans HI.out.c, ff1.trans HI.out.f⟩
          · go_simp
            refine hK _ _ ?_; clear hK K
            refine wpAnyIn_ready (rs := [0]) (by kernel_rfl) (by simp) ?_
            refine AllReadyIn.cons rfl (fun K hK => ?_) AllReadyIn.nil
            · go_simp
              refine hK _ _ ?_; clear hK K
              refine wpAnyIn_ready (rs := [4]) (by kernel_rfl) (by simp) ?_
              refine AllReadyIn.cons rfl (fun K hK => ?_) AllReadyIn.nil
              refine step_app rfl (.tmp 14) (.tmp 17) rfl (w.heap.size + 3) v (pre.map tr) (tr x) W.heap.size 1 rfl (HO.out.alloc _) rfl (by simp) (by simp; omega) (by simp; omega) ?_
              intro v' w1 own1 gr1
              obtain ⟨bx1, kp1, si1, cc1, ff1⟩ := HI.out.i.app HX.out HO.out own1 ⟨gr1.1, gr1.2, gr1.3, gr1.4, gr1.5⟩ hpl htx
              obtain ⟨g', cap', rfl⟩ := ownsRow_succ (k := pre.length) (by have := own1; unfold OwnS at this; rw [List.length_append, List.length_map] at this; exact this)
              have hc2 := bx1.cell
              have hf2 := bx1.frozen
              refine hK _ _ ?_; clear hK K
              refine wpAnyIn_ready (rs := [5]) (by kernel_rfl) (by simp) ?_
              refine AllReadyIn.cons rfl (fun K hK => ?_) AllReadyIn.nil
              go_simp
              refine hK _ _ ?_; clear hK K
              refine wpAnyIn_done (by kernel_rfl) ?_ _
              exact ⟨kp1, si1, cc1.trans HI.out.c, ff1.trans HI.out.f⟩
    case done =>
      rintro D ⟨pre, rest⟩ W hD hS hB hK
      obtain ⟨⟨⟨v, hbx, how⟩, flt, bel, hzz, hlen, hsm⟩, -, -⟩ := hB
      dsimp only at hS how hlen hsm
      rw [hS] at how
      have hsl : (Lin.sl s).length ≤ 4096 := by rw [← hS]; simpa using hlen
      obtain ⟨p, cap, rfl, hp, hpc0, hcap, hbl⟩ := sts_own how (fun x hx => by rw [← hS] at hx; obtain ⟨y, hy, rfl⟩ := List.mem_map.1 hx; have := hsm y hy; omega) (by omega)
      have hc1 := hbx.cell
      have hf1 := hbx.frozen
      have hlb := hbx.lt
      have hpc := Lib.hid hpc0
      clear hpc0
      have HS := Lib.hid hS
      have HP := Lib.hid hp
      have HK := Lib.hid hK
      clear hS how hp hsm hK hlen
      gi_wp2_with fail
      refine ⟨trivial, ?_⟩
      refine (callsIn_wide.2 (validate_any p (Lin.sl s) _ cap _ rfl HP.out)).mono ?_
      rintro e w2 ⟨rfl, hb2⟩
      have FB := flt.up hb2
      have HB := Lib.hid FB
      have u2 := up_call bel hb2
      have hDl : D < W.heap.size := (Array.getElem?_eq_some_iff.1 HK.out).1
      have hK2 := Lib.hid ((hb2.block D hDl).trans HK.out)
      have hc3 : w2.cell? ⟨w.heap.size + 1, 0, none⟩ = some (.slice p (Lin.sl s).length cap) := by rw [hb2.cell (p := ⟨w.heap.size + 1, 0, none⟩) hlb, hc1]
      have hlb2 : w.heap.size + 1 < w2.heap.size := by have := hb2.size; omega
      clear hc1 hf1
      by_cases h2 : Lin.vC (Lin.sl s) = 0
      · have E := Lib.hid (s_ok H1.out h2)
        have e2 := Lin.vI_zero h2
        rw [h2, e2]
        clear h2 e2
        have FE := (HB.out.set2 0 0).alloc (.cells #[.int .i64 0, .int .i64 0] 24 (0, 0))
        obtain ⟨a0, a1, a2, a3, a4⟩ := FB
        gi_wp2
        obtain ⟨Wf, hWf⟩ : ∃ Wf, ((w2.setCell ⟨w.heap.size, 0, none⟩ (.int .i64 0)).setCell ⟨w.heap.size, 1, none⟩ (.int .i64 0)).alloc (.cells #[.int .i64 0, .int .i64 0] 24 (0, 0)) = Wf := ⟨_, rfl⟩
        have hKf : Wf.heap[D]? = some (.deferred (some [])) := by rw [← hWf]; exact (((KeepsOthers.setCell _ _ _).trans (KeepsOthers.setCell _ _ _)).trans (KeepsOthers.alloc _ _)).same D _ hK2.out rfl
        have hpf : Sts Wf p (Lin.sl s) := by
          rw [← hWf]
          exact (((HP.out.mono hb2).set w.heap.size 0 _ (fun a ha => by have := hbl a ha; omega)).set w.heap.size 1 _ (fun a ha => by have := hbl a ha; omega)).mono (up_alloc (Below.refl _ _) _)
        have huf : Below w.heap.size w Wf := by rw [← hWf]; exact up_alloc ((u2.setCell (Nat.le_refl _) _).setCell (Nat.le_refl _) _) _
        rw [hWf] at FE ⊢
        obtain ⟨d0, d1⟩ := fin_cells FE hKf
        refine ⟨by simp, .inl ⟨_, _, rfl, run_takeDeferred hKf, ?_⟩⟩
        refine ⟨.tuple #[.slice p (Lin.sl s).length cap, .agg #[.int .i64 0, .int .i64 0]], (by simp [results, Try.results9, go_sem, d0, d1]), p, cap, by rw [E.out.1, E.out.2.1, E.out.2.2], by rw [E.out.1]; exact hpf.putObj _ hKf rfl, ⟨by rw [E.out.1]; exact hcap, hpc.out⟩, ?_⟩
        exact huf.trans (belowK_b (w := w) (Nat.le_refl _) Wf D _ _ (by simp at hD; omega) hKf rfl rfl)
      · have E := Lib.hid (s_bad H1.out h2)
        have FE := ((HB.out.set2 (Lin.vC (Lin.sl s)) (Lin.vI (Lin.sl s))).alloc (.cells #[.int .i64 (Lin.vC (Lin.sl s)), .int .i64 (Lin.vI (Lin.sl s))] 24 (0, 0))).drewN 1
        obtain ⟨a0, a1, a2, a3, a4⟩ := FB
        gi_wp2
        gi_region
        gi_wp2
        obtain ⟨Wf, hWf⟩ : ∃ Wf, (((w2.setCell ⟨w.heap.size, 0, none⟩ (.int .i64 (Lin.vC (Lin.sl s)))).setCell ⟨w.heap.size, 1, none⟩ (.int .i64 (Lin.vI (Lin.sl s)))).alloc (.cells #[.int .i64 (Lin.vC (Lin.sl s)), .int .i64 (Lin.vI (Lin.sl s))] 24 (0, 0))).drew = Wf := ⟨_, rfl⟩
        have hKf : Wf.heap[D]? = some (.deferred (some [])) := by rw [← hWf]; exact ((((KeepsOthers.setCell _ _ _).trans (KeepsOthers.setCell _ _ _)).trans (KeepsOthers.alloc _ _)).trans (KeepsOthers.drew _)).same D _ hK2.out rfl
        have huf : Below w.heap.size w Wf := by rw [← hWf]; exact (up_alloc ((u2.setCell (Nat.le_refl _) _).setCell (Nat.le_refl _) _) _).drew
        have FE2 : Flt Wf w.heap.size (Lin.vC (Lin.sl s)) (Lin.vI (Lin.sl s)) := by rw [← hWf]; exact ⟨FE.c0, FE.c1, FE.f0, FE.f1, FE.lt⟩
        rw [hWf]
        obtain ⟨d0, d1⟩ := fin_cells FE2 hKf
        refine ⟨by simp, .inl ⟨_, _, rfl, run_takeDeferred hKf, ?_⟩⟩
        refine ⟨.tuple #[.slice none 0 0, .agg #[.int .i64 (Lin.vC (Lin.sl s)), .int .i64 (Lin.vI (Lin.sl s))]], (by simp [results, Try.results9, go_sem, d0, d1]), none, 0, by rw [E.out.1, E.out.2.1, E.out.2.2]; rfl, by rw [E.out.1]; exact sts_nil _ _, ⟨by rw [E.out.1]; exact Nat.le_refl _, fun _ => rfl⟩, ?_⟩
        exact huf.trans (belowK_b (w := w) (Nat.le_refl _) Wf D _ _ (by simp at hD; omega) hKf rfl rfl)
theorem split_any (s : ByteArray) (w : World) (hs : s.size ≤ 140737488351232) : Calls Try.prog 9 #[.string s] w (SPost (Lin.sL s) (Lin.sC s) (Lin.sI s) w) :=
  split_big s w (by omega)
end Go.Proofs.Ytnjhnejebemflaa
