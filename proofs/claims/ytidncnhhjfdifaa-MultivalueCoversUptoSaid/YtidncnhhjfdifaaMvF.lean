
/-
  Package multivalue: Write, walked; the law's first.
-/
import Derived.Test.YtidncnhhjfdifaaMvE
namespace Go.Proofs.Ytidncnhhjfdifaa
open Go.RowKit
set_option maxRecDepth 4000

/-- a register and a fault are handed back -/
def MPost (L : List Mv.V) (c i : Int) (w : World) (e : Ending) (w' : World) : Prop :=
  ∃ q qs cap, e = .returned (.tuple #[.slice q (List.length qs) cap, .agg #[.int .i64 c, .int .i64 i]]) ∧ Vs w' q qs ∧ Mv.vs qs = L ∧ (q = none → cap = 0) ∧ qs.length ≤ cap ∧ Below w.heap.size w w'
theorem MPost.bad {c i : Int} {w w' : World} (hb : Below w.heap.size w w') : MPost [] c i w (.returned (.tuple #[.slice none 0 0, .agg #[.int .i64 c, .int .i64 i]])) w' :=
  ⟨none, [], 0, rfl, Vs.nil _ _, rfl, fun _ => rfl, Nat.le_refl _, hb⟩
theorem val_six {rs : List Mv.R} (h : Mv.vC (Mv.vs rs) = 0) : rs.length ≤ 16 ∧ ∀ r ∈ rs, r.vec.length = 6 := by
  have hv := (Mv.val_iff _).1 h
  refine ⟨by rw [← Mv.vs_len]; exact hv.len, fun r hr => (hv.each r.v (List.mem_map_of_mem hr)).len⟩
theorem vrow_one (w : World) (g : Nat) (r : Mv.R) (hg : g = w.heap.size) : Row rwE (w.alloc (.cells #[.int .i64 r.val, .slice r.p r.vec.length r.cap] 35 (0, 0))) (some ⟨g, 0, none⟩) [r] := by
  subst hg
  refine ⟨(fun h => by cases h), fun _ => ⟨w.heap.size, 0, rfl, by simp, fun i hi k u hu => ?_⟩⟩
  have : i = 0 := by simpa using hi
  subst this
  rw [World.cell?_alloc_mark]
  simp only [rwE] at hu
  match k, hu with
  | 0, hu => simpa using hu
  | 1, hu => simpa using hu
  | k + 2, hu => simp at hu
theorem Flt.other {w : World} {g g' k : Nat} {c i : Int} (h : Flt w g c i) (hg : g' ≠ g) (u : Value) : Flt (w.setCell ⟨g', k, none⟩ u) g c i :=
  ⟨by rw [World.cell?_setCell_other (h := by intro e; cases e; exact hg rfl), h.c0], by rw [World.cell?_setCell_other (h := by intro e; cases e; exact hg rfl), h.c1], by rw [World.frozen?_setCell, h.f0], by rw [World.frozen?_setCell, h.f1], by rw [World.size_setCell]; exact h.lt⟩
theorem CB.other {w : World} {g g' k : Nat} {C : List Int} (h : CB w g C) (hg : g' ≠ g) (u : Value) : CB (w.setCell ⟨g', k, none⟩ u) g C :=
  ⟨fun i hi => by rw [World.cell?_setCell_other (h := by intro e; cases e; exact hg rfl), h.cell i hi], fun i hi => by rw [World.frozen?_setCell, h.froz i hi], by rw [World.size_setCell]; exact h.lt⟩
theorem Row.other {α : Type} {e : Enc α} {w : World} {b off g' k : Nat} {l : List α} (h : Row e w (some ⟨b, off, none⟩) l) (hg : g' ≠ b) (u : Value) : Row e (w.setCell ⟨g', k, none⟩ u) (some ⟨b, off, none⟩) l := by
  refine ⟨(fun e => by cases e), fun hn => ?_⟩
  obtain ⟨b', off', e', hb, hc⟩ := h.at' hn
  cases e'
  refine ⟨b, off, rfl, by rw [World.size_setCell]; exact hb, fun i hi j v hv => ?_⟩
  rw [World.cell?_setCell_other (h := by intro e; cases e; exact hg rfl)]
  exact hc i hi j v hv
set_option maxRecDepth 100000 in
set_option maxHeartbeats 4000000 in
theorem mvWrite_any (p : Option Addr) (rs : List Mv.R) (cap : Nat) (r v : Int) (w : World) (hp : Vs w p rs) (hlc : rs.length ≤ cap) (hl : rs.length ≤ 4611686018427387904) :
    Calls Try.prog 14 #[.slice p rs.length cap, .int .i64 r, .int .i64 v] w (MPost (Mv.wL (Mv.vs rs) r v) (Mv.wC (Mv.vs rs) r v) (Mv.wI (Mv.vs rs) r v) w) := by
  have up0 : Below w.heap.size w (w.alloc (.cells #[.int .i64 0, .int .i64 0] 24 (0, 0))) := up_alloc (Below.refl _ _) _
  have F0 := Lib.hid (Flt.new w 0 0 24)
  have HP := Lib.hid (hp.mono up0)
  have VV := Lib.hid (mvValidate_any p rs cap _ HP.out hlc hl)
  have z0 : (w.alloc (.cells #[.int .i64 0, .int .i64 0] 24 (0, 0))).heap.size = w.heap.size + 1 := by simp
  have Z0 := Lib.hid z0
  clear z0
  clear hp hlc hl
  by_cases hv : Mv.vC (Mv.vs rs) = 0
  case neg =>
    have e1 : Mv.wC (Mv.vs rs) r v = Mv.vC (Mv.vs rs) := by unfold Mv.wC Mv.wCI; rw [if_pos hv]
    have e2 : Mv.wI (Mv.vs rs) r v = Mv.vI (Mv.vs rs) := by unfold Mv.wI Mv.wCI; rw [if_pos hv]
    have e3 : Mv.wL (Mv.vs rs) r v = [] := by unfold Mv.wL; rw [e1, if_neg hv]
    rw [e1, e2, e3]
    clear e1 e2 e3
    generalize Mv.vC (Mv.vs rs) = c at hv VV ⊢
    generalize Mv.vI (Mv.vs rs) = i at VV ⊢
    have g0 : ¬ c = 0 := hv
    clear hv
    go_enter Try.func14, Try.ntmps14
    go_wp2_with (go_at_call 18; refine VV.out.mono ?_; rintro e w2 ⟨rfl, hb2⟩)
    rename_i K1 hK1 K2 hK2
    have F2 := (F0.out.up hb2).up (up_alloc (Below.refl _ _) (.cells #[.int .i64 c, .int .i64 i] 24 (0, 0)))
    have G2 := Flt.new w2 c i 24
    have B2 := up_alloc (up_call up0 hb2) (.cells #[.int .i64 c, .int .i64 i] 24 (0, 0))
    generalize w2.alloc (.cells #[.int .i64 c, .int .i64 i] 24 (0, 0)) = W4 at F2 G2 B2 ⊢
    have F4 := F2.set2 c i
    obtain ⟨k0, k1, f0, f1, _⟩ := F2
    obtain ⟨m0, m1, -, -, -⟩ := G2
    have d0 := F4.c0
    have d1 := F4.c1
    go_region
    refine hK2 _ _ ?_
    go_wp2_with fail
    refine bodyPost_ret (v := .tuple #[.slice none 0 0, .agg #[.int .i64 c, .int .i64 i]]) (by simp [results, Try.results14, go_sem, d0, d1]) rfl (MPost.bad ?_)
    exact ((B2.setCell (p := ⟨w.heap.size, 0, none⟩) (by simp) _).setCell (p := ⟨w.heap.size, 1, none⟩) (by simp) _).drew
  case pos =>
  obtain ⟨hl16, h6⟩ := val_six hv
  have hcv := Mv.cvr_facts ((Mv.val_iff _).1 hv).each
  have hvi := Mv.vI_zero hv
  have E1 : Mv.wC (Mv.vs rs) r v = (if r < 0 ∨ 6 ≤ r then ((3, -2) : Int × Int) else if Mv.out v = true then (3, -3) else if 1000000000 < (Mv.cvr (Mv.vs rs)).getD r.toNat 0 + 1 then (10, -1) else (0, 0)).1 := by
    unfold Mv.wC Mv.wCI; rw [if_neg (by simpa using hv)]
  have E2 : Mv.wI (Mv.vs rs) r v = (if r < 0 ∨ 6 ≤ r then ((3, -2) : Int × Int) else if Mv.out v = true then (3, -3) else if 1000000000 < (Mv.cvr (Mv.vs rs)).getD r.toNat 0 + 1 then (10, -1) else (0, 0)).2 := by
    unfold Mv.wI Mv.wCI; rw [if_neg (by simpa using hv)]
  have E3 : Mv.wL (Mv.vs rs) r v = if Mv.wC (Mv.vs rs) r v = 0 then [Mv.wV (Mv.vs rs) r.toNat v] else [] := rfl
  rw [hv, hvi] at VV
  have EV : Mv.wV (Mv.vs rs) r.toNat v = ⟨v, (Mv.cvr (Mv.vs rs)).set r.toNat ((Mv.cvr (Mv.vs rs)).getD r.toNat 0 + 1)⟩ := rfl
  rw [EV] at E3
  rw [E3, E2, E1]
  have LC := Lib.hid (fun (W : World) (hW : Below (w.alloc (.cells #[.int .i64 0, .int .i64 0] 24 (0, 0))).heap.size (w.alloc (.cells #[.int .i64 0, .int .i64 0] 24 (0, 0))) W) => leastCover_any p rs cap W (HP.out.mono hW) (by omega) h6)
  generalize Mv.cvr (Mv.vs rs) = C at hcv LC ⊢
  obtain ⟨c6, cb, -⟩ := hcv
  have F00 := F0.out
  clear hv h6 E1 E2 E3 EV hvi hl16
  obtain ⟨k0, k1, f0, f1, _⟩ := F00
  by_cases h1 : r < 0 ∨ 6 ≤ r
  · rw [if_pos h1, if_neg (by decide)]
    dsimp only
    rcases (by omega : r < 0 ∨ (¬ r < 0 ∧ 6 ≤ r)) with h1 | ⟨h0, h1⟩
    case' inl => have g1 : decide (r < 0) = true := decide_eq_true h1
    case' inr =>
      have g1 : decide (r < 0) = false := decide_eq_false h0
      have g2 : decide (6 ≤ r) = true := decide_eq_true h1
    all_goals
      clear c6 cb
      go_enter Try.func14, Try.ntmps14
      go_wp2_with (go_at_call 18; refine VV.out.mono ?_; rintro e w2 ⟨rfl, hb2⟩; have F2 := (F0.out.up hb2).up (up_alloc (Below.refl _ _) (.cells #[.int .i64 0, .int .i64 0] 24 (0, 0))); obtain ⟨m0, m1, q0, q1, _⟩ := F2)
      have F2 := (F0.out.up hb2).up (up_alloc (Below.refl _ _) (.cells #[.int .i64 0, .int .i64 0] 24 (0, 0)))
      have F4 := F2.set2 3 (-2)
      have d0 := F4.c0
      have d1 := F4.c1
      refine bodyPost_ret (v := .tuple #[.slice none 0 0, .agg #[.int .i64 3, .int .i64 (-2)]]) (by simp [results, Try.results14, go_sem, d0, d1]) rfl (MPost.bad ?_)
      exact ((up_alloc (up_call up0 hb2) (.cells #[.int .i64 0, .int .i64 0] 24 (0, 0))).setCell (p := ⟨w.heap.size, 0, none⟩) (by simp) _).setCell (p := ⟨w.heap.size, 1, none⟩) (by simp) _
  rw [if_neg h1]
  have g1 : decide (r < 0) = false := decide_eq_false (by omega)
  have g2 : decide (6 ≤ r) = false := decide_eq_false (by omega)
  have OV := Lib.hid (fun w => out_any v w)
  cases h3 : Mv.out v with
  | true =>
    rw [if_pos rfl, if_neg (by decide)]
    dsimp only
    rw [h3] at OV
    clear h1 c6 cb h3
    go_enter Try.func14, Try.ntmps14
    go_wp2_with (first | (go_at_call 18; refine VV.out.mono ?_; rintro e w2 ⟨rfl, hb2⟩; have F2 := (F0.out.up hb2).up (up_alloc (Below.refl _ _) (.cells #[.int .i64 0, .int .i64 0] 24 (0, 0))); obtain ⟨m0, m1, q0, q1, _⟩ := F2) | (go_at_call 36; refine (OV.out _).mono ?_; rintro e w3 ⟨rfl, rfl⟩))
    have F2 := (F0.out.up hb2).up (up_alloc (Below.refl _ _) (.cells #[.int .i64 0, .int .i64 0] 24 (0, 0)))
    have F4 := F2.set2 3 (-3)
    have d0 := F4.c0
    have d1 := F4.c1
    refine bodyPost_ret (v := .tuple #[.slice none 0 0, .agg #[.int .i64 3, .int .i64 (-3)]]) (by simp [results, Try.results14, go_sem, d0, d1]) rfl (MPost.bad ?_)
    exact ((up_alloc (up_call up0 hb2) (.cells #[.int .i64 0, .int .i64 0] 24 (0, 0))).setCell (p := ⟨w.heap.size, 0, none⟩) (by simp) _).setCell (p := ⟨w.heap.size, 1, none⟩) (by simp) _
  | false =>
  rw [if_neg Bool.false_ne_true]
  rw [h3] at OV
  obtain ⟨n, rfl⟩ := Int.eq_ofNat_of_zero_le (show 0 ≤ r by omega)
  have hn : n < 6 := by omega
  rw [show ((n : Int)).toNat = n from rfl]
  have hcn := cb n hn
  have hgd : C.getD n 0 = C[n]'(by omega) := by rw [List.getD_eq_getElem?_getD, List.getElem?_eq_getElem (by omega : n < C.length)]; rfl
  rw [hgd] at hcn ⊢
  have CG := Lib.hid (fun (W : World) (h : CB W w.heap.size C) => h)
  have b0 : (0 : Int) ≤ (n : Int) := by omega
  have b1 : (n : Int) < 6 := by omega
  have C6 := Lib.hid c6
  have HN := Lib.hid hn
  -- the number of the replica
  obtain ⟨y, hy⟩ : ∃ y, y = C[n]'(by rw [C6.out]; exact HN.out) := ⟨_, rfl⟩
  rw [← hy] at hcn ⊢
  have HY := Lib.hid hy
  have wy : IntKind.i64.wrap (y + 1) = y + 1 := IntWalk.i64_in _ (by omega)
  have READ := Lib.hid (fun (W : World) (g : Nat) (h : CB W g C) => show W.cell? ⟨g, n, none⟩ = some (.int .i64 y) ∧ W.frozen? ⟨g, n, none⟩ = false from ⟨by rw [h.cell n (by rw [C6.out]; exact HN.out), HY.out], h.froz n (by rw [C6.out]; exact HN.out)⟩)
  clear h1 c6 cb h3 hgd CG hy hcn hn
  by_cases h4 : 1000000000 < y + 1
  · rw [if_pos h4, if_neg (by decide)]
    have g4 : decide (1000000000 < y + 1) = true := decide_eq_true h4
    dsimp only
    clear h4
    go_enter Try.func14, Try.ntmps14
    go_wp2_with (first | (go_at_call 18; refine VV.out.mono ?_; rintro e w2 ⟨rfl, hb2⟩; have U2 := up_alloc hb2 (.cells #[.int .i64 0, .int .i64 0] 24 (0, 0))) | (go_at_call 36; refine (OV.out _).mono ?_; rintro e w3 ⟨rfl, rfl⟩) |
      (go_at_call 37; refine (LC.out _ U2).mono ?_; rintro e w4 ⟨rfl, hC, hb4⟩; rw [World.size_alloc] at hC; obtain ⟨r0, r1⟩ := READ.out _ _ hC; have U4 := Lib.hid (up_call U2 hb4); have HC4 := Lib.hid hC; have NE := Lib.hid (show w2.heap.size + 1 ≠ w.heap.size by have h0 := hb2.size; simp at h0; omega); have FX := (F0.out.up U4.out).other (k := n) NE.out (.int .i64 (y + 1)); have FH := Lib.hid FX; have NB := Lib.hid (show w.heap.size ≤ w2.heap.size + 1 by have h0 := hb2.size; simp at h0; omega); obtain ⟨m0, m1, q0, q1, q2⟩ := FX; have s1 := World.cell?_setCell_same _ _ (.int .i64 (y + 1)) r0; clear hC hb4 U2))
    have F4 := FH.out.set2 10 (-1)
    have d0 := F4.c0
    have d1 := F4.c1
    refine bodyPost_ret (v := .tuple #[.slice none 0 0, .agg #[.int .i64 10, .int .i64 (-1)]]) (by simp [results, Try.results14, go_sem, d0, d1]) rfl (MPost.bad ?_)
    exact (((up0.trans (U4.out.mono up0.size)).setCell (p := ⟨w2.heap.size + 1, n, none⟩) NB.out _).setCell (p := ⟨w.heap.size, 0, none⟩) (by simp) _).setCell (p := ⟨w.heap.size, 1, none⟩) (by simp) _
  · rw [if_neg h4, if_pos (by rfl)]
    have g4 : decide (1000000000 < y + 1) = false := decide_eq_false h4
    dsimp only
    clear h4
    go_enter Try.func14, Try.ntmps14
    go_wp2_with (first | (go_at_call 18; refine VV.out.mono ?_; rintro e w2 ⟨rfl, hb2⟩; have U2 := up_alloc hb2 (.cells #[.int .i64 0, .int .i64 0] 24 (0, 0))) | (go_at_call 36; refine (OV.out _).mono ?_; rintro e w3 ⟨rfl, rfl⟩) |
      (go_at_call 37; refine (LC.out _ U2).mono ?_; rintro e w4 ⟨rfl, hC, hb4⟩; rw [World.size_alloc] at hC; obtain ⟨r0, r1⟩ := READ.out _ _ hC; have U4 := Lib.hid (up_call U2 hb4); have HC4 := Lib.hid hC; have NE := Lib.hid (show w2.heap.size + 1 ≠ w.heap.size by have h0 := hb2.size; simp at h0; omega); have FX := (F0.out.up U4.out).other (k := n) NE.out (.int .i64 (y + 1)); have FH := Lib.hid FX; have NB := Lib.hid (show w.heap.size ≤ w2.heap.size + 1 by have h0 := hb2.size; simp at h0; omega); have FA := FX.alloc (.cells #[.int .i64 v, .slice (some ⟨w2.heap.size + 1, 0, none⟩) 6 6] 35 (0, 0)); have FB := Lib.hid FA; obtain ⟨m0, m1, q0, q1, q2⟩ := FA; clear FX; have s1 := World.cell?_setCell_same _ _ (.int .i64 (y + 1)) r0; clear hC hb4 U2))
    have F4 := FB.out.set2 0 0
    have d0 := F4.c0
    have d1 := F4.c1
    have hs6 : (C.set n (y + 1)).length = 6 := by rw [List.length_set, C6.out]
    have CS := HC4.out.set n (by rw [C6.out]; exact HN.out) (y + 1)
    have z4 : (w4.setCell ⟨w2.heap.size + 1, n, none⟩ (.int .i64 (y + 1))).heap.size = w4.heap.size := World.size_setCell _ _ _
    have R1 := vrow_one (w4.setCell ⟨w2.heap.size + 1, n, none⟩ (.int .i64 (y + 1))) w4.heap.size ⟨v, some ⟨w2.heap.size + 1, 0, none⟩, 6, C.set n (y + 1)⟩ z4.symm
    dsimp only at R1
    rw [hs6] at R1
    have CA := (CS.up (up_alloc (Below.refl _ _) (.cells #[.int .i64 v, .slice (some ⟨w2.heap.size + 1, 0, none⟩) 6 6] 35 (0, 0))))
    have hz4 : w.heap.size < w4.heap.size := by have := NB.out; have := HC4.out.lt; omega
    refine bodyPost_ret (v := .tuple #[.slice (some ⟨w4.heap.size, 0, none⟩) 1 1, .agg #[.int .i64 0, .int .i64 0]]) (by simp [results, Try.results14, go_sem, d0, d1]) rfl
      ⟨some ⟨w4.heap.size, 0, none⟩, [⟨v, some ⟨w2.heap.size + 1, 0, none⟩, 6, C.set n (y + 1)⟩], 1, rfl, ⟨(R1.other (by omega) _).other (by omega) _, fun r hr => ?_⟩, rfl, (fun h => by cases h), Nat.le_refl _, ?_⟩
    · rw [List.mem_singleton.1 hr]
      exact ((CA.other (Ne.symm NE.out) _).other (Ne.symm NE.out) _).row
    · exact ((((up0.trans (U4.out.mono up0.size)).setCell (p := ⟨w2.heap.size + 1, n, none⟩) NB.out _).alloc (by rw [z4]; omega) _).setCell (p := ⟨w.heap.size, 0, none⟩) (by simp) _).setCell (p := ⟨w.heap.size, 1, none⟩) (by simp) _
end Go.Proofs.Ytidncnhhjfdifaa
