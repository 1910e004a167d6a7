
/-
  The program's unified: groupsOf, walked.
-/
import Derived.Test.YtcheggdfcdokiaaDoorUnC
import Derived.Deep.RegionLaw
namespace Go.Proofs.YtcheggdfcdokiaaDoor
open Go.RowKit
set_option maxRecDepth 4000

/-- a slice of hunks: as an element -/
def svE : Enc Sv where
  ty := 23
  sl := 43
  size := 1
  bytes := 24
  z := .slice none 0 0
  enc s := [sv s]
  len _ := rfl
  one _ u h := by rw [List.mem_singleton.1 h]; rfl
  pos := by decide
  zs := rfl
  und := Tryd.underlying43
  inf := by kernel_rfl
theorem sv_one (w : World) (H : Nat) (hH : w.heap.size = H) (s : Sv) (t : TypeId) (k : Nat) (u : Value) (h : (svE.enc s)[k]? = some u) : (w.alloc (.cells #[sv s] t (0, 0))).cell? ((⟨H, 0, none⟩ : Addr).add k) = some u := by
  subst hH
  rw [add_at, Nat.zero_add, World.cell?_alloc_mark]
  simp only [svE] at h
  match k, h with
  | 0, h => simpa using h
/-- a group: its slice, its hunks, as they lie -/
abbrev Gp := Sv × List Tp.H × List (Int × Sv × Sv)
/-- the groups while they are made -/
structure Gs (C : Nat) (w0 w : World) (v : Value) (L : List Gp) : Prop where
  bl : C ≤ w.heap.size
  own : OwnE svE C w v (L.map (·.1))
  each : ∀ x ∈ L, OwnE hkE C w (sv x.1) x.2.2 ∧ Rows w0 x.2.1 x.2.2
  apart : L.Pairwise (fun x y => ∀ b, (sv x.1).ownBlock = some b → (sv y.1).ownBlock ≠ some b)
theorem Gs.start (w0 w : World) (C : Nat) (h : C ≤ w.heap.size) : Gs C w0 w (.slice none 0 0) [] := ⟨h, ownE_nil _ _ _, (fun x hx => by cases hx), List.Pairwise.nil⟩
theorem Gs.up {C : Nat} {w0 w w' : World} {v : Value} {L : List Gp} (h : Gs C w0 w v L) (hb : Below w.heap.size w w') : Gs C w0 w' v L :=
  ⟨Nat.le_trans h.bl hb.size, h.own.up hb, fun x hx => ⟨(h.each x hx).1.up hb, (h.each x hx).2⟩, h.apart⟩
theorem Gs.push {C : Nat} {w0 w w2 : World} {v v2 : Value} {L : List Gp} (h : Gs C w0 w v L) (gr : w.grownBy w2 v.ownBlock) (own2 : OwnE svE C w2 v2 (L.map (·.1) ++ [(none, 0, 0)])) : Gs C w0 w2 v2 (L ++ [((none, 0, 0), [], [])]) := by
  refine ⟨Nat.le_trans h.bl gr.size, by rw [List.map_append]; exact own2, fun x hx => ?_, ?_⟩
  · rcases List.mem_append.1 hx with hx | hx
    · refine ⟨World.ownsRow.kept (h.each x hx).1 gr ?_, (h.each x hx).2⟩
      cases e : (sv x.1).ownBlock with
      | none => exact .inl rfl
      | some b => exact .inr (fun e' => own_apart (e := hkE) (e' := svE) (by decide) (h.each x hx).1 h.own b e e'.symm)
    · rw [List.mem_singleton.1 hx]
      exact ⟨ownE_nil _ _ _, Rows.nil _⟩
  · refine List.pairwise_append.2 ⟨h.apart, List.pairwise_singleton _ _, fun x _ y hy b _ => ?_⟩
    rw [List.mem_singleton.1 hy]
    intro e; cases e
theorem Gs.last {C g cap : Nat} {w0 w : World} {D : List Gp} {x : Gp} (h : Gs C w0 w (.slice (some ⟨g, 0, none⟩) (D.length + 1) cap) (D ++ [x])) : w.cell? ⟨g, D.length, none⟩ = some (sv x.1) ∧ g < w.heap.size := by
  obtain ⟨p, cap', e, hr, -⟩ := row_of_own h.own
  have hl : ((D ++ [x]).map (·.1)).length = D.length + 1 := by simp
  obtain ⟨b, off, e1, h2, h3⟩ := hr.cell (i := D.length) (by omega)
  simp only [Value.slice.injEq] at e
  rw [e1] at e
  simp only [Option.some.injEq, Addr.mk.injEq] at e
  obtain ⟨⟨rfl, rfl, -⟩, -, -⟩ := e
  have h4 := h3 0 (sv x.1) (by simp [svE])
  have hs1 : svE.size = 1 := rfl
  rw [hs1, Nat.mul_one, Nat.zero_add, Nat.add_zero] at h4
  exact ⟨h4, h2⟩
theorem Gs.app {C g cap H : Nat} {w0 w w2 : World} {D : List Gp} {x : Gp} {s' : Sv} {h' : Tp.H} {o n : Sv} (h : Gs C w0 w (.slice (some ⟨g, 0, none⟩) (D.length + 1) cap) (D ++ [x])) (gr : w.grownBy w2 (sv x.1).ownBlock)
    (own2 : OwnE hkE C w2 (sv s') (x.2.2 ++ [(h'.at', o, n)])) (hH : w.heap.size ≤ H) (hat : (sv s').ownBlock = (sv x.1).ownBlock ∨ (sv s').ownBlock = some H) (ro : Rd w0 o h'.old) (rn : Rd w0 n h'.new) :
    w2.cell? ⟨g, D.length, none⟩ = some (sv x.1) ∧ w2.frozen? ⟨g, D.length, none⟩ = false ∧ C ≤ g ∧
      Gs C w0 (w2.setCell ⟨g, D.length, none⟩ (sv s')) (.slice (some ⟨g, 0, none⟩) (D.length + 1) cap) (D ++ [(s', x.2.1 ++ [h'], x.2.2 ++ [(h'.at', o, n)])]) := by
  have hx := h.each x (by simp)
  have nx : (sv x.1).ownBlock ≠ some g := fun e => own_apart (e := hkE) (e' := svE) (by decide) hx.1 h.own g e rfl
  have ov : OwnE svE C w2 (.slice (some ⟨g, 0, none⟩) (D.length + 1) cap) ((D ++ [x]).map (·.1)) := World.ownsRow.kept h.own gr (.inr (fun e => nx e.symm))
  have ns : (sv s').ownBlock ≠ some g := fun e => own_apart (e := hkE) (e' := svE) (by decide) own2 ov g e rfl
  have hl : ((D ++ [x]).map (·.1)).length = D.length + 1 := by simp
  obtain ⟨-, ⟨e, -⟩ | ⟨g', cap', cur, e, hbg, hg, hnc, hm, hsz, htk⟩⟩ := id ov
  · cases e
  simp only [Value.slice.injEq, Option.some.injEq, Addr.mk.injEq] at e
  obtain ⟨⟨rfl, -, -⟩, -, rfl⟩ := e
  have hc : cur[D.length]? = some (sv x.1) := by
    rw [hl] at htk
    have : (cur.toList.take ((D.length + 1) * 1))[D.length]? = some (sv x.1) := by
      have hs1 : svE.size = 1 := rfl
      rw [hs1] at htk
      rw [htk, List.map_append, List.flatMap_append]
      have : ((D.map (·.1)).flatMap svE.enc).length = D.length := by rw [flat_len, List.length_map]; exact Nat.mul_one _
      rw [List.getElem?_append_right (by omega), this, Nat.sub_self]
      rfl
    rw [List.getElem?_take_of_lt (by omega), Array.getElem?_toList] at this
    exact this
  refine ⟨?_, Lib.frozen_of_heap hg _, hbg, ?_⟩
  · rw [Lib.cell_of_heap hg]; exact hc
  refine ⟨by rw [World.size_setCell]; exact Nat.le_trans h.bl gr.size, ?_, fun y hy => ?_, ?_⟩
  · unfold OwnE at ov ⊢
    rw [hl] at ov
    have hs := (ov.stored D.length (sv s')).1
    have e : (((D ++ [x]).map (·.1)).flatMap svE.enc).set D.length (sv s') = ((D ++ [((s', x.2.1 ++ [h'], x.2.2 ++ [(h'.at', o, n)]) : Gp)]).map (·.1)).flatMap svE.enc := by
      rw [List.map_append, List.map_append, List.flatMap_append, List.flatMap_append]
      have hfl : ((D.map (·.1)).flatMap svE.enc).length = D.length := by rw [flat_len, List.length_map]; exact Nat.mul_one _
      rw [List.set_append_right _ _ (by omega), hfl, Nat.sub_self]
      rfl
    rw [e] at hs
    simpa using hs
  · rcases List.mem_append.1 hy with hy | hy
    · have hyL := h.each y (List.mem_append_left _ hy)
      have ap := (List.pairwise_append.1 h.apart).2.2 y hy x (by simp)
      refine ⟨ownsRow_setCell_other (World.ownsRow.kept hyL.1 gr ?_) (by exact fun e => own_apart (e := hkE) (e' := svE) (by decide) hyL.1 h.own g e rfl) _, hyL.2⟩
      cases e : (sv y.1).ownBlock with
      | none => exact .inl rfl
      | some b => exact .inr (fun e' => ap b e e'.symm)
    · rw [List.mem_singleton.1 hy]
      exact ⟨ownsRow_setCell_other own2 (by exact ns) _, hx.2.snoc ro rn⟩
  · refine List.pairwise_append.2 ⟨(List.pairwise_append.1 h.apart).1, List.pairwise_singleton _ _, fun y hy z hz b hb => ?_⟩
    rw [List.mem_singleton.1 hz]
    have ap := (List.pairwise_append.1 h.apart).2.2 y hy x (by simp) b hb
    rcases hat with e | e
    · show (sv s').ownBlock ≠ some b
      rw [e]; exact ap
    · show (sv s').ownBlock ≠ some b
      rw [e]
      intro e'
      have := own_block (h.each y (List.mem_append_left _ hy)).1 b hb
      cases e'; omega

/-! the division into groups -/
namespace Tp
/-- whether a hunk begins a group -/
def gnew (c : Int) (prev : Option H) (h : H) : Bool := match prev with
  | none => true
  | some p => decide (2 * c < h.at' - en p)
def gadd (b : Bool) (G : List (List H)) (h : H) : List (List H) := if b = true then G ++ [[h]] else G.dropLast ++ [G.getLast?.getD [] ++ [h]]
def gfold (c : Int) : Option H → List (List H) → List H → List (List H)
  | _, G, [] => G
  | prev, G, h :: r => gfold c (some h) (gadd (gnew c prev h) G h) r
theorem gfold_step (c : Int) (prev : Option H) (G : List (List H)) (hs : List H) (k : Nat) (h : k < hs.length) : gfold c prev G (hs.drop k) = gfold c (some hs[k]) (gadd (gnew c prev hs[k]) G hs[k]) (hs.drop (k + 1)) := by
  rw [List.drop_eq_getElem_cons h]; rfl
def prevAt (hs : List H) (k : Nat) : Option H := if k = 0 then none else hs[k - 1]?
theorem gadd_new (G : List (List H)) (h : H) : gadd true G h = G ++ [[h]] := rfl
theorem gadd_old (D : List (List H)) (g : List H) (h : H) : gadd false (D ++ [g]) h = D ++ [g ++ [h]] := by
  unfold gadd; simp
end Tp
/-- groups that can be read, in every world that is as this one from C on -/
def GsPost (c : Int) (hs : List Tp.H) (w0 w : World) (e : Ending) (w' : World) : Prop :=
  ∃ v L, e = .returned v ∧ Gs w.heap.size w0 w' v L ∧ L.map (·.2.1) = Tp.gfold c none [] hs ∧ Below w.heap.size w w'

set_option maxRecDepth 100000 in
set_option maxHeartbeats 8000000 in
theorem groupsOf_any (p : Option Addr) (hs : List Tp.H) (n cap c : Nat) (w0 w : World) (hn : n = hs.length) (hp : Ptc w0 p hs) (h0 : Below w0.heap.size w0 w) (hl : hs.length ≤ 130) (hc : c ≤ 120) (hb : ∀ h ∈ hs, 0 ≤ h.at' ∧ h.at' ≤ 120 ∧ h.old.length ≤ 120) :
    Calls Tryd.prog 12 #[.slice p n cap, .int .i64 (c : Int)] w (GsPost (c : Int) hs w0 w) := by
  subst hn
  have H0 := Lib.hid h0
  have hz0 := h0.size
  clear h0
  have HP := Lib.hid hp
  have HB := Lib.hid hb
  clear hp hb
  go_enter Tryd.func12, Tryd.ntmps12
  go_wp2_with fail
  go_loopw [5, 11] (fun v i wr => ∃ (k : Nat) (L : List Gp) (vq : Value), k ≤ hs.length ∧ i = .int .i64 k ∧ vq = v ∧ Hid (Gs w.heap.size w0 wr vq L) ∧ Hid (Below w.heap.size w wr) ∧ Hid (L.length ≤ k ∧ ((0 < k → L ≠ []) ∧ ∀ x ∈ L, x.2.2.length ≤ k) ∧ Tp.gfold c (Tp.prevAt hs k) (L.map (·.2.1)) (hs.drop k) = Tp.gfold c none [] hs)) (fun _ i _ => hs.length - (intOf i).toNat)
  case atStart => exact ⟨0, [], _, Nat.zero_le _, rfl, rfl, Lib.hid (Gs.start _ _ _ (Nat.le_refl _)), Lib.hid (Below.refl _ _), Lib.hid ⟨Nat.zero_le _, ⟨(fun h => by omega), (fun x hx => by cases hx)⟩, rfl⟩⟩
  case round =>
    obtain ⟨k, L, v, hk, rfl, rfl, hG, hB, hL⟩ := hrel
    have b0 : (0 : Int) ≤ (k : Int) := by omega
    by_cases hlt : k < hs.length
    · have g1 : decide (k < hs.length) = true := by simpa using hlt
      have b1 : (k : Int) < (hs.length : Int) := by omega
      obtain ⟨bb, off, hpe, hbb, ⟨o1, o2, o3⟩, ⟨n1, n2, n3⟩, c0, c1, c2, r1, r2⟩ := HP.out.cell hlt
      subst hpe
      have uB := Lib.hid (H0.out.trans (hB.out.mono hz0))
      replace c0 := (uB.out.cell (p := ⟨bb, off + k * 3, none⟩) hbb).trans c0
      replace c1 := (uB.out.cell (p := ⟨bb, off + k * 3 + 1, none⟩) hbb).trans c1
      replace c2 := (uB.out.cell (p := ⟨bb, off + k * 3 + 2, none⟩) hbb).trans c2
      obtain ⟨l1, ⟨l2, l2'⟩, l3⟩ := hL.out
      have l4 := Lib.hid ((Tp.gfold_step c (Tp.prevAt hs k) (L.map (·.2.1)) hs k hlt).symm.trans l3)
      obtain ⟨q0, q1, q2⟩ := HB.out _ (List.getElem_mem hlt)
      have HLT := Lib.hid hlt
      have HX0 : Hid (∃ x, x = hs[k]'hlt) := Lib.hid ⟨_, rfl⟩
      obtain ⟨⟨z, ol, nl⟩, hx⟩ := HX0.out
      have PV := Lib.hid (show Tp.prevAt hs (k + 1) = some ⟨z, ol, nl⟩ by unfold Tp.prevAt; rw [if_neg (by omega), hx]; simp [hlt])
      rw [← hx] at c0 r1 r2 q0 q1 q2 l4
      have RO := Lib.hid r1
      have RN := Lib.hid r2
      have e1 := r1.len
      have e2 := r2.len
      dsimp only at e1 e2 c0 q0 q1 q2 RO RN
      subst e1 e2
      simp only [sv] at c1 c2
      clear r1 r2 l3 HX0
      have hb1 := up_alloc (Below.refl wr.heap.size wr) (.cells #[.int .i64 z, .slice o1 ol.length o3, .slice n1 nl.length n3] 46 (0, 0))
      have U1 := Lib.hid (Hu.new wr z (.slice o1 ol.length o3) (.slice n1 nl.length n3) 46)
      have G1 := Lib.hid (hG.out.up hb1)
      have B1 := Lib.hid (up_alloc hB.out (.cells #[.int .i64 z, .slice o1 ol.length o3, .slice n1 nl.length n3] 46 (0, 0)))
      clear hb1 hx
      have NV : Hid (v.ownBlock ≠ some wr.heap.size) := Lib.hid (fun e => by have := own_block hG.out.own _ e; omega)
      by_cases hk0 : k = 0
      · have g0 : ((k : Int) == 0) = true := by rw [beq_iff_eq]; omega
        have NEW := Lib.hid (show Tp.gnew c (Tp.prevAt hs k) ⟨z, ol, nl⟩ = true by rw [hk0]; rfl)
        clear hk0
        go_wp2_with fail
        obtain ⟨W1, hW1⟩ : ∃ W1, W1 = wr.alloc (.cells #[.int .i64 z, .slice o1 ol.length o3, .slice n1 nl.length n3] 46 (0, 0)) := ⟨_, rfl⟩
        rw [← hW1] at U1 G1 B1 ⊢
        clear hW1 c0 c1 c2
        refine over_lit (by kernel_rfl) (by kernel_rfl) ?_
        repeat (go_big_quiet_step (fail))
        refine wpQuiet_nil ?_
        rintro _ ⟨nq, rfl⟩
        have BW := over_below W1 nq
        have U2 := Lib.hid (U1.out.up BW)
        have G2 := Lib.hid (G1.out.up BW)
        have B2 := Lib.hid (up_call B1.out BW)
        obtain ⟨X, hX⟩ : ∃ X, X = over W1 nq := ⟨_, rfl⟩
        rw [← hX] at U2 G2 B2 ⊢
        clear hX BW U1 G1 B1
        have FX : ∀ (s' : Sv) (r' : List (Int × Sv × Sv)), Tp.gfold c (some ⟨z, ol, nl⟩) ((L ++ [((s', ([] : List Tp.H) ++ [⟨z, ol, nl⟩], r') : Gp)]).map (·.2.1)) (hs.drop (k + 1)) = Tp.gfold c none [] hs := fun s' r' => by
          have := l4.out
          rw [NEW.out, Tp.gadd_new] at this
          rw [List.map_append]; exact this
        have RF := Lib.hid (fun (s' : Sv) (r' : List (Int × Sv × Sv)) (hr : r'.length ≤ k + 1) => (⟨by simp; omega, ⟨fun _ => by simp, fun y hy => by rcases List.mem_append.1 hy with hy | hy; (have := l2' y (id hy); omega); (rw [List.mem_singleton.1 hy]; exact hr)⟩, by rw [PV.out]; exact FX s' r'⟩ : (L ++ [((s', ([] : List Tp.H) ++ [⟨z, ol, nl⟩], r') : Gp)]).length ≤ k + 1 ∧ ((0 < k + 1 → (L ++ [((s', ([] : List Tp.H) ++ [⟨z, ol, nl⟩], r') : Gp)]) ≠ []) ∧ ∀ x ∈ (L ++ [((s', ([] : List Tp.H) ++ [⟨z, ol, nl⟩], r') : Gp)]), x.2.2.length ≤ k + 1) ∧ Tp.gfold c (Tp.prevAt hs (k + 1)) ((L ++ [((s', ([] : List Tp.H) ++ [⟨z, ol, nl⟩], r') : Gp)]).map (·.2.1)) (hs.drop (k + 1)) = Tp.gfold c none [] hs))
        have l1H := Lib.hid l1
        clear FX l1 l2 l2'
        go_wp2_with (at_builtin; refine Halt.out ?_)
        refine ⟨?_⟩
        refine wp_appE_at svE rfl (.tmp 32) (.tmp 33) rfl w.heap.size v (L.map (·.1)) (none, 0, 0) _ 1 rfl (G2.out.own.alloc _) rfl (sv_one X X.heap.size rfl (none, 0, 0) _) (by simp [svE]; have := l1H.out; omega) (by simp; have := l1H.out; omega) (by rw [World.size_alloc]; have := B2.out.size; omega) ?_
        intro v2 Wq own2 gr2 hat2
        obtain ⟨g, cap2, rfl⟩ := own_succ (m := L.length) own2 (by simp)
        have G3 : X.grownBy Wq v.ownBlock := grow_trans (World.grownBy_alloc X _ none) gr2
        have GQ := Lib.hid (G2.out.push G3 own2)
        have UQ := Lib.hid (U2.out.grown G3 NV.out)
        have BQ := Lib.hid (B2.out.grown G3 B2.out.size (fun b hb => by have := own_block G2.out.own b hb; omega))
        clear own2 gr2 hat2 G3 G2 U2 B2
        have hx := GQ.out.each _ (List.mem_append_right _ (List.mem_singleton.2 rfl))
        have HX := Lib.hid hx.1
        have lr : Hid (([] : List (Int × Sv × Sv)).length ≤ 200 ∧ L.length ≤ 200) := Lib.hid ⟨by simp, by have := l1H.out; omega⟩
        obtain ⟨xc, xg⟩ := GQ.out.last
        have xf := World.new_ne Wq ⟨g, L.length, none⟩ xc
        simp only [sv] at xc
        have i1 : (L.length : Int) < (L.length : Int) + 1 := Int.lt_add_one_iff.2 (Int.le_refl _)
        have i2 : (0 : Int) ≤ (L.length : Int) := Int.natCast_nonneg _
        have wl : IntKind.i64.wrap ((L.length : Int) + 1 - 1) = (L.length : Int) := by rw [IntWalk.i64_in _ (by have := lr.out; omega)]; omega
        have wl2 : IntKind.i64.wrap (((L.length + 1 : Nat) : Int) - 1) = (L.length : Int) := by rw [IntWalk.i64_in _ (by have := lr.out; omega)]; omega
        have wl3 : wrap64 (L.length : Int) = (L.length : Int) := IntWalk.wrap64_in _ (by have := lr.out; omega)
        obtain ⟨x0, x1, x2, x3⟩ := UQ.out
        have G0 := World.grownBy_alloc Wq (.cells #[.int .i64 z, .slice o1 ol.length o3, .slice n1 nl.length n3] 46 (0, 0)) none
        clear hx
        go_wp2_with fail
        go_region_law (skip; refine step_appE hkE _ (by rfl) (.tmp 43) (.tmp 45) (by rfl) w.heap.size (sv ((none : Option Addr), (0 : Nat), (0 : Nat))) [] (z, (o1, ol.length, o3), (n1, nl.length, n3)) ⟨Wq.heap.size, 0, none⟩ 1 (by rfl) (HX.out.alloc _) (by rfl) (hunk_one' _ Wq.heap.size (by first | rfl | simp) z (o1, ol.length, o3) (n1, nl.length, n3) _) (by first | (simp [hkE]; done) | (simp [hkE]; have := lr.out; omega)) (by first | (simp; done) | (have := lr.out; omega)) (by have := BQ.out.size; simp; omega) (Wq.heap.size + 1) (by simp) ?_; intro gg cc w3 own3 gr3 hat3 hlt3
                       have G1 : World.grownBy Wq w3 (Value.ownBlock (sv ((none : Option Addr), (0 : Nat), (0 : Nat)))) := by refine grow_trans ?_ gr3; exact ⟨G0.os, G0.tape, G0.output, G0.size, G0.block⟩
                       obtain ⟨z1, z2, z3, hGs⟩ := GQ.out.app (s' := (some ⟨gg, 0, none⟩, 0 + 1, cc)) (h' := ⟨z, ol, nl⟩) (o := (o1, ol.length, o3)) (n := (n1, nl.length, n3)) (H := Wq.heap.size + 1) G1 own3 (by omega) (by rcases hat3 with e | e; exact .inl e.symm; exact .inr (by rw [e]; rfl)) RO.out RN.out)
        all_goals
          have GE := Lib.hid hGs
          have BE := Lib.hid ((BQ.out.grown G1 BQ.out.size fun b hb => by have := own_block HX.out b hb; omega).setCell (p := ⟨g, L.length, none⟩) z3 (.slice (some ⟨gg, 0, none⟩) (0 + 1) cc))
          clear own3 gr3 hat3 hlt3 G1 hGs
          go_wp2_with fail
          go_roundw
          case rel => exact ⟨k + 1, _, _, HLT.out, by go_num, rfl, GE, BE, Lib.hid (RF.out _ _ (by simp))⟩
          case measure => first | (simp [intOf]; done) | (simp [intOf]; omega)
      · have g0 : ((k : Int) == 0) = false := by rw [beq_eq_false_iff_ne]; omega
        obtain ⟨j, hj⟩ : ∃ j, k = j + 1 := ⟨k - 1, by omega⟩
        have hjl : j < hs.length := by omega
        have wj : IntKind.i64.wrap ((k : Int) - 1) = (j : Int) := by rw [IntWalk.i64_in _ (by omega)]; omega
        have j0 : (0 : Int) ≤ (j : Int) := by omega
        have kp : 0 < k := by omega
        have j1 : (j : Int) < (hs.length : Int) := by omega
        obtain ⟨bb2, off2, hpe, hbb2, ⟨p1, p2, p3⟩, ⟨m1, m2, m3⟩, d0, d1, d2, s1, s2⟩ := HP.out.cell hjl
        obtain ⟨rfl, rfl⟩ : bb = bb2 ∧ off = off2 := by cases hpe; exact ⟨rfl, rfl⟩
        replace d0 := cell_up ((uB.out.cell (p := ⟨bb, off + j * 3, none⟩) hbb).trans d0) (.cells #[.int .i64 z, .slice o1 ol.length o3, .slice n1 nl.length n3] 46 (0, 0))
        replace d1 := cell_up ((uB.out.cell (p := ⟨bb, off + j * 3 + 1, none⟩) hbb).trans d1) (.cells #[.int .i64 z, .slice o1 ol.length o3, .slice n1 nl.length n3] 46 (0, 0))
        replace d2 := cell_up ((uB.out.cell (p := ⟨bb, off + j * 3 + 2, none⟩) hbb).trans d2) (.cells #[.int .i64 z, .slice o1 ol.length o3, .slice n1 nl.length n3] 46 (0, 0))
        have PE := Lib.hid (show Tp.prevAt hs k = some hs[j] by unfold Tp.prevAt; rw [if_neg hk0, hj]; simp [hjl])
        obtain ⟨y0, y1, y2⟩ := HB.out _ (List.getElem_mem hjl)
        have bbW : bb < (wr.alloc (.cells #[.int .i64 z, .slice o1 ol.length o3, .slice n1 nl.length n3] 46 (0, 0))).heap.size := by have := hB.out.size; simp; omega
        obtain ⟨⟨y, pl, ml⟩, hy⟩ : ∃ x, x = hs[j] := ⟨_, rfl⟩
        rw [← hy] at d0 s1 s2 PE y0 y1 y2
        have e1 := s1.len
        have e2 := s2.len
        dsimp only at e1 e2 d0 y0 y1 y2
        subst e1 e2
        simp only [sv] at d1 d2
        have w1 : IntKind.i64.wrap (z - (y + (pl.length : Int))) = z - (y + (pl.length : Int)) := IntWalk.i64_in _ (by omega)
        have w2 : IntKind.i64.wrap (2 * (c : Int)) = 2 * (c : Int) := IntWalk.i64_in _ (by omega)
        clear s1 s2 hy hpe hj hk0
        by_cases hgap : 2 * (c : Int) < z - (y + (pl.length : Int))
        · have g2 : decide (2 * (c : Int) < z - (y + (pl.length : Int))) = true := decide_eq_true hgap
          have NEW := Lib.hid (show Tp.gnew c (Tp.prevAt hs k) ⟨z, ol, nl⟩ = true by rw [PE.out]; exact g2)
          clear hgap
          go_wp2_with fail
          obtain ⟨W1, hW1⟩ : ∃ W1, W1 = wr.alloc (.cells #[.int .i64 z, .slice o1 ol.length o3, .slice n1 nl.length n3] 46 (0, 0)) := ⟨_, rfl⟩
          rw [← hW1] at U1 G1 B1 d0 d1 d2 bbW ⊢
          clear hW1 c0 c1 c2
          have k0 := over_cell U1.out.lt U1.out.c0
          have k1 := over_cell bbW d0
          have k2 := over_cell bbW d1
          have k3 := over_cell bbW d2
          have CE := fun n => over_call (uend_any y p1 m1 pl.length p3 ml.length m3 (over W1 n) (by omega) (by omega) (by omega))
          refine over_lit (by kernel_rfl) (by kernel_rfl) ?_
          repeat (go_big_quiet_step ((go_at_call 13; exact CE _)))
          refine wpQuiet_nil ?_
          rintro _ ⟨nq, rfl⟩
          have BW := over_below W1 nq
          have U2 := Lib.hid (U1.out.up BW)
          have G2 := Lib.hid (G1.out.up BW)
          have B2 := Lib.hid (up_call B1.out BW)
          obtain ⟨X, hX⟩ : ∃ X, X = over W1 nq := ⟨_, rfl⟩
          rw [← hX] at U2 G2 B2 ⊢
          clear hX BW U1 G1 B1 d0 d1 d2 k0 k1 k2 k3 CE
          have FX : ∀ (s' : Sv) (r' : List (Int × Sv × Sv)), Tp.gfold c (some ⟨z, ol, nl⟩) ((L ++ [((s', ([] : List Tp.H) ++ [⟨z, ol, nl⟩], r') : Gp)]).map (·.2.1)) (hs.drop (k + 1)) = Tp.gfold c none [] hs := fun s' r' => by
            have := l4.out
            rw [NEW.out, Tp.gadd_new] at this
            rw [List.map_append]; exact this
          have RF := Lib.hid (fun (s' : Sv) (r' : List (Int × Sv × Sv)) (hr : r'.length ≤ k + 1) => (⟨by simp; omega, ⟨fun _ => by simp, fun y hy => by rcases List.mem_append.1 hy with hy | hy; (have := l2' y (id hy); omega); (rw [List.mem_singleton.1 hy]; exact hr)⟩, by rw [PV.out]; exact FX s' r'⟩ : (L ++ [((s', ([] : List Tp.H) ++ [⟨z, ol, nl⟩], r') : Gp)]).length ≤ k + 1 ∧ ((0 < k + 1 → (L ++ [((s', ([] : List Tp.H) ++ [⟨z, ol, nl⟩], r') : Gp)]) ≠ []) ∧ ∀ x ∈ (L ++ [((s', ([] : List Tp.H) ++ [⟨z, ol, nl⟩], r') : Gp)]), x.2.2.length ≤ k + 1) ∧ Tp.gfold c (Tp.prevAt hs (k + 1)) ((L ++ [((s', ([] : List Tp.H) ++ [⟨z, ol, nl⟩], r') : Gp)]).map (·.2.1)) (hs.drop (k + 1)) = Tp.gfold c none [] hs))
          have l1H := Lib.hid l1
          clear FX l1 l2 l2'
          go_wp2_with (at_builtin; refine Halt.out ?_)
          refine ⟨?_⟩
          refine wp_appE_at svE rfl (.tmp 32) (.tmp 33) rfl w.heap.size v (L.map (·.1)) (none, 0, 0) _ 1 rfl (G2.out.own.alloc _) rfl (sv_one X X.heap.size rfl (none, 0, 0) _) (by simp [svE]; have := l1H.out; omega) (by simp; have := l1H.out; omega) (by rw [World.size_alloc]; have := B2.out.size; omega) ?_
          intro v2 Wq own2 gr2 hat2
          obtain ⟨g, cap2, rfl⟩ := own_succ (m := L.length) own2 (by simp)
          have G3 : X.grownBy Wq v.ownBlock := grow_trans (World.grownBy_alloc X _ none) gr2
          have GQ := Lib.hid (G2.out.push G3 own2)
          have UQ := Lib.hid (U2.out.grown G3 NV.out)
          have BQ := Lib.hid (B2.out.grown G3 B2.out.size (fun b hb => by have := own_block G2.out.own b hb; omega))
          clear own2 gr2 hat2 G3 G2 U2 B2
          have hx := GQ.out.each _ (List.mem_append_right _ (List.mem_singleton.2 rfl))
          have HX := Lib.hid hx.1
          have lr : Hid (([] : List (Int × Sv × Sv)).length ≤ 200 ∧ L.length ≤ 200) := Lib.hid ⟨by simp, by have := l1H.out; omega⟩
          obtain ⟨xc, xg⟩ := GQ.out.last
          have xf := World.new_ne Wq ⟨g, L.length, none⟩ xc
          simp only [sv] at xc
          have i1 : (L.length : Int) < (L.length : Int) + 1 := Int.lt_add_one_iff.2 (Int.le_refl _)
          have i2 : (0 : Int) ≤ (L.length : Int) := Int.natCast_nonneg _
          have wl : IntKind.i64.wrap ((L.length : Int) + 1 - 1) = (L.length : Int) := by rw [IntWalk.i64_in _ (by have := lr.out; omega)]; omega
          have wl2 : IntKind.i64.wrap (((L.length + 1 : Nat) : Int) - 1) = (L.length : Int) := by rw [IntWalk.i64_in _ (by have := lr.out; omega)]; omega
          have wl3 : wrap64 (L.length : Int) = (L.length : Int) := IntWalk.wrap64_in _ (by have := lr.out; omega)
          obtain ⟨x0, x1, x2, x3⟩ := UQ.out
          have G0 := World.grownBy_alloc Wq (.cells #[.int .i64 z, .slice o1 ol.length o3, .slice n1 nl.length n3] 46 (0, 0)) none
          clear hx
          go_wp2_with fail
          go_region_law (skip; refine step_appE hkE _ (by rfl) (.tmp 43) (.tmp 45) (by rfl) w.heap.size (sv ((none : Option Addr), (0 : Nat), (0 : Nat))) [] (z, (o1, ol.length, o3), (n1, nl.length, n3)) ⟨Wq.heap.size, 0, none⟩ 1 (by rfl) (HX.out.alloc _) (by rfl) (hunk_one' _ Wq.heap.size (by first | rfl | simp) z (o1, ol.length, o3) (n1, nl.length, n3) _) (by first | (simp [hkE]; done) | (simp [hkE]; have := lr.out; omega)) (by first | (simp; done) | (have := lr.out; omega)) (by have := BQ.out.size; simp; omega) (Wq.heap.size + 1) (by simp) ?_; intro gg cc w3 own3 gr3 hat3 hlt3
                         have G1 : World.grownBy Wq w3 (Value.ownBlock (sv ((none : Option Addr), (0 : Nat), (0 : Nat)))) := by refine grow_trans ?_ gr3; exact ⟨G0.os, G0.tape, G0.output, G0.size, G0.block⟩
                         obtain ⟨z1, z2, z3, hGs⟩ := GQ.out.app (s' := (some ⟨gg, 0, none⟩, 0 + 1, cc)) (h' := ⟨z, ol, nl⟩) (o := (o1, ol.length, o3)) (n := (n1, nl.length, n3)) (H := Wq.heap.size + 1) G1 own3 (by omega) (by rcases hat3 with e | e; exact .inl e.symm; exact .inr (by rw [e]; rfl)) RO.out RN.out)
          all_goals
            have GE := Lib.hid hGs
            have BE := Lib.hid ((BQ.out.grown G1 BQ.out.size fun b hb => by have := own_block HX.out b hb; omega).setCell (p := ⟨g, L.length, none⟩) z3 (.slice (some ⟨gg, 0, none⟩) (0 + 1) cc))
            clear own3 gr3 hat3 hlt3 G1 hGs
            go_wp2_with fail
            go_roundw
            case rel => exact ⟨k + 1, _, _, HLT.out, by go_num, rfl, GE, BE, Lib.hid (RF.out _ _ (by simp))⟩
            case measure => first | (simp [intOf]; done) | (simp [intOf]; omega)
        · have g2 : decide (2 * (c : Int) < z - (y + (pl.length : Int))) = false := decide_eq_false hgap
          have NEW := Lib.hid (show Tp.gnew c (Tp.prevAt hs k) ⟨z, ol, nl⟩ = false by rw [PE.out]; exact g2)
          obtain ⟨D, x, rfl⟩ : ∃ D x, L = D ++ [x] := ⟨L.dropLast, L.getLast (l2 kp), (List.dropLast_concat_getLast (l2 kp)).symm⟩
          obtain ⟨⟨sp, sl, sc⟩, gh, raws⟩ := x
          obtain ⟨g, cap2, rfl⟩ := own_succ (m := D.length) (l := D.map (·.1)) (y := (sp, sl, sc)) (by have := hG.out.own; rwa [List.map_append] at this) (by simp)
          clear hgap
          go_wp2_with fail
          obtain ⟨W1, hW1⟩ : ∃ W1, W1 = wr.alloc (.cells #[.int .i64 z, .slice o1 ol.length o3, .slice n1 nl.length n3] 46 (0, 0)) := ⟨_, rfl⟩
          rw [← hW1] at U1 G1 B1 d0 d1 d2 bbW ⊢
          clear hW1 c0 c1 c2
          have k0 := over_cell U1.out.lt U1.out.c0
          have k1 := over_cell bbW d0
          have k2 := over_cell bbW d1
          have k3 := over_cell bbW d2
          have CE := fun n => over_call (uend_any y p1 m1 pl.length p3 ml.length m3 (over W1 n) (by omega) (by omega) (by omega))
          refine over_lit (by kernel_rfl) (by kernel_rfl) ?_
          repeat (go_big_quiet_step ((go_at_call 13; exact CE _)))
          refine wpQuiet_nil ?_
          rintro _ ⟨nq, rfl⟩
          have BW := over_below W1 nq
          have U2 := Lib.hid (U1.out.up BW)
          have G2 := Lib.hid (G1.out.up BW)
          have B2 := Lib.hid (up_call B1.out BW)
          obtain ⟨X, hX⟩ : ∃ X, X = over W1 nq := ⟨_, rfl⟩
          rw [← hX] at U2 G2 B2 ⊢
          clear hX BW U1 G1 B1 d0 d1 d2 k0 k1 k2 k3 CE
          have FX : ∀ (s' : Sv) (r' : List (Int × Sv × Sv)), Tp.gfold c (some ⟨z, ol, nl⟩) ((D ++ [((s', gh ++ [⟨z, ol, nl⟩], r') : Gp)]).map (·.2.1)) (hs.drop (k + 1)) = Tp.gfold c none [] hs := fun s' r' => by
            have := l4.out
            rw [NEW.out, List.map_append] at this
            have e := Tp.gadd_old (D.map (·.2.1)) gh ⟨z, ol, nl⟩
            rw [List.map_append]
            rw [show ([((sp, sl, sc), gh, raws)] : List Gp).map (·.2.1) = [gh] from rfl, e] at this
            exact this
          have rl : raws.length ≤ k := l2' _ (List.mem_append_right _ (List.mem_singleton.2 rfl))
          have dl : D.length ≤ 200 := by have : (D ++ [(((sp, sl, sc), gh, raws) : Gp)]).length = D.length + 1 := by simp
                                         omega
          have RF := Lib.hid (fun (s' : Sv) (r' : List (Int × Sv × Sv)) (hr : r'.length ≤ k + 1) => (⟨by simp at l1 ⊢; omega, ⟨fun _ => by simp, fun y hy => by rcases List.mem_append.1 hy with hy | hy; (have := l2' y (List.mem_append_left _ hy); omega); (rw [List.mem_singleton.1 hy]; exact hr)⟩, by rw [PV.out]; exact FX s' r'⟩ : (D ++ [((s', gh ++ [⟨z, ol, nl⟩], r') : Gp)]).length ≤ k + 1 ∧ ((0 < k + 1 → (D ++ [((s', gh ++ [⟨z, ol, nl⟩], r') : Gp)]) ≠ []) ∧ ∀ x ∈ (D ++ [((s', gh ++ [⟨z, ol, nl⟩], r') : Gp)]), x.2.2.length ≤ k + 1) ∧ Tp.gfold c (Tp.prevAt hs (k + 1)) ((D ++ [((s', gh ++ [⟨z, ol, nl⟩], r') : Gp)]).map (·.2.1)) (hs.drop (k + 1)) = Tp.gfold c none [] hs))
          have lr : Hid (raws.length ≤ 200 ∧ D.length ≤ 200) := Lib.hid ⟨by omega, dl⟩
          have rlH := Lib.hid rl
          have GQ := G2
          have UQ := U2
          have BQ := B2
          obtain ⟨Wq, hWq⟩ : ∃ Wq, Wq = X := ⟨_, rfl⟩
          rw [← hWq] at GQ UQ BQ ⊢
          clear FX l1 l2 l2' hWq G2 U2 B2 rl dl
          have hx := GQ.out.each _ (List.mem_append_right _ (List.mem_singleton.2 rfl))
          have HX := Lib.hid hx.1
          obtain ⟨xc, xg⟩ := GQ.out.last
          have xf := World.new_ne Wq ⟨g, D.length, none⟩ xc
          simp only [sv] at xc
          have i1 : (D.length : Int) < (D.length : Int) + 1 := Int.lt_add_one_iff.2 (Int.le_refl _)
          have i2 : (0 : Int) ≤ (D.length : Int) := Int.natCast_nonneg _
          have wl : IntKind.i64.wrap ((D.length : Int) + 1 - 1) = (D.length : Int) := by rw [IntWalk.i64_in _ (by have := lr.out; omega)]; omega
          have wl2 : IntKind.i64.wrap (((D.length + 1 : Nat) : Int) - 1) = (D.length : Int) := by rw [IntWalk.i64_in _ (by have := lr.out; omega)]; omega
          have wl3 : wrap64 (D.length : Int) = (D.length : Int) := IntWalk.wrap64_in _ (by have := lr.out; omega)
          obtain ⟨x0, x1, x2, x3⟩ := UQ.out
          have G0 := World.grownBy_alloc Wq (.cells #[.int .i64 z, .slice o1 ol.length o3, .slice n1 nl.length n3] 46 (0, 0)) none
          clear hx
          go_wp2_with fail
          go_region_law (skip; refine step_appE hkE _ (by rfl) (.tmp 43) (.tmp 45) (by rfl) w.heap.size (sv (sp, sl, sc)) raws (z, (o1, ol.length, o3), (n1, nl.length, n3)) ⟨Wq.heap.size, 0, none⟩ 1 (by rfl) (HX.out.alloc _) (by rfl) (hunk_one' _ Wq.heap.size (by first | rfl | simp) z (o1, ol.length, o3) (n1, nl.length, n3) _) (by first | (simp [hkE]; done) | (simp [hkE]; have := lr.out; omega)) (by first | (simp; done) | (have := lr.out; omega)) (by have := BQ.out.size; simp; omega) (Wq.heap.size + 1) (by simp) ?_; intro gg cc w3 own3 gr3 hat3 hlt3
                         have G1 : World.grownBy Wq w3 (Value.ownBlock (sv (sp, sl, sc))) := by refine grow_trans ?_ gr3; exact ⟨G0.os, G0.tape, G0.output, G0.size, G0.block⟩
                         obtain ⟨z1, z2, z3, hGs⟩ := GQ.out.app (s' := (some ⟨gg, 0, none⟩, raws.length + 1, cc)) (h' := ⟨z, ol, nl⟩) (o := (o1, ol.length, o3)) (n := (n1, nl.length, n3)) (H := Wq.heap.size + 1) G1 own3 (by omega) (by rcases hat3 with e | e; exact .inl e.symm; exact .inr (by rw [e]; rfl)) RO.out RN.out)
          all_goals
            have GE := Lib.hid hGs
            have BE := Lib.hid ((BQ.out.grown G1 BQ.out.size fun b hb => by have := own_block HX.out b hb; omega).setCell (p := ⟨g, D.length, none⟩) z3 (.slice (some ⟨gg, 0, none⟩) (raws.length + 1) cc))
            clear own3 gr3 hat3 hlt3 G1 hGs
            go_wp2_with fail
            go_roundw
            case rel => exact ⟨k + 1, _, _, HLT.out, by go_num, rfl, GE, BE, Lib.hid (RF.out _ _ (by simp; exact rlH.out))⟩
            case measure => first | (simp [intOf]; done) | (simp [intOf]; omega)
    · have g1 : decide (k < hs.length) = false := by simpa using hlt
      obtain ⟨l1, -, l3⟩ := hL.out
      rw [List.drop_eq_nil_of_le (by omega)] at l3
      have L3 := Lib.hid l3
      obtain ⟨pv, cv, rfl, -, -, -, -⟩ := row_of_own hG.out.own
      clear l3
      go_wp2_with fail
      go_ret
      exact ⟨_, L, rfl, hG.out, L3.out, hB.out⟩
end Go.Proofs.YtcheggdfcdokiaaDoor
