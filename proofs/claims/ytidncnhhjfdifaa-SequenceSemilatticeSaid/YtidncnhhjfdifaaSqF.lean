
/-
  Package sequence: Validate, walked.
-/
import Derived.Test.YtidncnhhjfdifaaSqE
namespace Go.Proofs.Ytidncnhhjfdifaa
open Go.RowKit
set_option maxRecDepth 4000

theorem zB (w : World) : (zeroValue 4).run Try.prog w = .ok (.bool false) w := by kernel_rfl
/-- the set of what has been seen -/
def Seen (w : World) (b n : Nat) (s : List Id) : Prop := Mp Try.prog 82 idV idOk (.bool false) w b n (fun x => .bool (decide (x ∈ s)))
theorem Seen.made (w : World) : Seen (w.alloc (.map #[] 0)) w.heap.size 0 [] := (Mp.made w).as fun x _ => by simp
theorem Seen.up {w w' : World} {b n : Nat} {s : List Id} (h : Seen w b n s) (hb : Below w.heap.size w w') : Seen w' b n s := by
  obtain ⟨D, h1, h2⟩ := h
  obtain ⟨es, clock, hb', F, hs, hD⟩ := h1
  exact ⟨D, ⟨es, clock, (hb.block _ (Array.getElem?_eq_some_iff.1 hb').1).trans hb', F, hs, hD⟩, h2⟩
theorem Seen.ask {w : World} {b n : Nat} {s : List Id} (h : Seen w b n s) {x : Id} (hx : idOk x) {k : Value} (hk : k = idV x) :
    (Instr.lookup 88 (.map (some b)) k false).run Try.prog w = .ok (.bool (decide (x ∈ s))) w := by
  subst hk
  obtain ⟨kl, hkl⟩ := keyId x hx
  exact Mp.lookup h lawId Try.underlying88 (zB w) hx hkl
theorem wp_see {ops : Array Oper} {rest : List Oper} {o : Oper} {a : Act} {Q : Exit → Act → World → Prop} (w : World) (hg : o.guard = none) (m x v : Operand) (hop : o.op = Op.mapUpdate 88 m x v) (b n : Nat) (s : List Id) (hm : a.eval m = .map (some b)) (h : Seen w b n s) (hn : n < 1000)
    (y : Id) (hx : a.eval x = idV y) (ho : idOk y) (hv : a.eval v = .bool true)
    (hK : ∀ w', Seen w' b (n + 1) (s ++ [y]) → w.grownBy w' (some b) → wpList Try.prog ops Q rest (a.put o.dst undef) w') : wpList Try.prog ops Q (o :: rest) a w :=
  wpList_update_mp w hg m x v _ hop _ _ lawId Try.underlying88 b n _ hm h (by unfold maxLen; omega) idV_inj y hx ho (keyId y ho) _ hv fun w' h' hg' =>
    hK w' (h'.as fun u _ => by
      by_cases e : u = y
      · subst e; simp
      · simp [e]) hg'
namespace Sq
theorem vC_at {l : List O} {k : Nat} (h60 : ¬ 60 < l.length) (hk : k < l.length) (hc : cd l k ≠ 0) (hn : ∀ j, j < k → cd l j = 0) : vC l = cd l k ∧ vI l = k := by
  have e : fst (fun i => decide (cd l i ≠ 0)) l.length = some k := fst_some hk (decide_eq_true hc) (fun j hj => by simp [hn j hj])
  unfold vC vI
  rw [if_neg h60, if_neg h60, e]
  exact ⟨rfl, rfl⟩
theorem vC_miss {l : List O} {k : Nat} (h60 : ¬ 60 < l.length) (ha : ∀ j, j < l.length → cd l j = 0) (hk : k < l.length) (hm : ms l k = true) (hn : ∀ j, j < k → ms l j = false) : vC l = 6 ∧ vI l = k := by
  have e : fst (fun i => decide (cd l i ≠ 0)) l.length = none := fst_none (fun j hj => by simp [ha j hj])
  have e2 : fst (ms l) l.length = some k := fst_some hk hm hn
  unfold vC vI
  rw [if_neg h60, if_neg h60, e, e2]
  exact ⟨rfl, rfl⟩
theorem vC_ok {l : List O} (h60 : ¬ 60 < l.length) (ha : ∀ j, j < l.length → cd l j = 0) (hn : ∀ j, j < l.length → ms l j = false) : vC l = 0 ∧ vI l = 0 := by
  have e : fst (fun i => decide (cd l i ≠ 0)) l.length = none := fst_none (fun j hj => by simp [ha j hj])
  have e2 : fst (ms l) l.length = none := fst_none hn
  unfold vC vI
  rw [if_neg h60, if_neg h60, e, e2]
  exact ⟨rfl, rfl⟩
theorem cd_bad {l : List O} {k : Nat} (hk : k < l.length) (h : oC l[k] ≠ 0) : cd l k = oC l[k] := by
  unfold cd
  rw [List.getElem?_eq_getElem hk]
  exact if_neg (fun h' => h h'.1)
theorem cd_dup {l : List O} {k : Nat} (hk : k < l.length) (h : oC l[k] = 0) (hi : l[k].id ∈ (l.take k).map O.id) : cd l k = 7 := by
  unfold cd
  rw [List.getElem?_eq_getElem hk]
  exact if_pos ⟨h, hi⟩
theorem cd_ok {l : List O} {k : Nat} (hk : k < l.length) (h : oC l[k] = 0) (hi : l[k].id ∉ (l.take k).map O.id) : cd l k = 0 := by
  unfold cd
  rw [List.getElem?_eq_getElem hk]
  exact (if_neg (fun h' => hi h'.2)).trans h
theorem cd_code {l : List O} {k : Nat} (hk : k < l.length) (h : cd l k = 0) : oC l[k] = 0 := by
  unfold cd at h
  rw [List.getElem?_eq_getElem hk] at h
  dsimp only at h
  split at h
  · omega
  · exact h
theorem ms_at {l : List O} {k : Nat} (hk : k < l.length) : ms l k = decide (l[k].nd ≠ (0, 0) ∧ (l[k].nd, 0) ∉ l.map O.id) := by
  unfold ms
  rw [List.getElem?_eq_getElem hk]
theorem ids_next {l : List O} {k : Nat} (hk : k < l.length) : (l.take k).map O.id ++ [l[k].id] = (l.take (k + 1)).map O.id := by
  rw [List.take_succ_eq_append_getElem hk, List.map_append]; rfl
end Sq
set_option maxRecDepth 100000 in
set_option maxHeartbeats 4000000 in
theorem sqValidate_any (p : Option Addr) (l : List Sq.O) (cap : Nat) (w : World) (hp : Row opE w p l) (hl : l.length ≤ 2513169434845) (hs : ∀ o ∈ l, o.line.size ≤ 140737488351232) :
    Calls Try.prog 27 #[.slice p l.length cap] w (BPost (.agg #[.int .i64 (Sq.vC l), .int .i64 (Sq.vI l)]) w) := by
  have HP := Lib.hid hp
  have HS := Lib.hid hs
  clear hp hs
  have up0 : Below w.heap.size w (w.alloc (.cells #[.int .i64 0, .int .i64 0] 24 (0, 0))) := up_alloc (Below.refl _ _) _
  have F0 := Lib.hid (Flt.new w 0 0 24)
  have hmm := @run_makeMap Try.prog
  by_cases h60 : 60 < l.length
  · rw [show Sq.vC l = 2 from if_pos h60, show Sq.vI l = -1 from if_pos h60]
    have g0 : decide ((60 : Int) < (l.length : Int)) = true := by rw [decide_eq_true_iff]; omega
    have f0 := F0.out.f0
    have f1 := F0.out.f1
    go_enter Try.func27, Try.ntmps27
    go_wp2_with fail
    refine bodyPost_ret (v := .agg #[.int .i64 2, .int .i64 (-1)]) (by simp [results, Try.results27, go_sem]) rfl ⟨rfl, ?_⟩
    exact up_alloc (Below.refl _ _) _
  · have g0 : decide ((60 : Int) < (l.length : Int)) = false := by rw [decide_eq_false_iff_not]; omega
    generalize hvc : Sq.vC l = vc
    generalize hvi : Sq.vI l = vi
    have HVC := Lib.hid hvc
    have HVI := Lib.hid hvi
    clear hvc hvi
    have M0 : Hid (Seen ((w.alloc (.cells #[.int .i64 0, .int .i64 0] 24 (0, 0))).alloc (.map #[] 0)) (w.heap.size + 1) 0 []) := Lib.hid (by
      have := Seen.made (w.alloc (.cells #[.int .i64 0, .int .i64 0] 24 (0, 0)))
      rwa [World.size_alloc] at this)
    go_enter Try.func27, Try.ntmps27
    go_wp2_with fail
    generalize hV0 : w.alloc (.cells #[.int .i64 0, .int .i64 0] 24 (0, 0)) = V0 at up0 F0 M0 ⊢
    have hsz : V0.heap.size = w.heap.size + 1 := by rw [← hV0]; simp
    have HP0 := Lib.hid (HP.out.mono up0)
    go_loopw [17] (fun i wr => ∃ k : Nat, k ≤ l.length ∧ i = .int .i64 k ∧ Hid (∀ j, j < k → Sq.cd l j = 0) ∧ Hid (Seen wr (w.heap.size + 1) k ((l.take k).map Sq.O.id)) ∧ Hid (Below V0.heap.size V0 wr)) (fun i _ => l.length - (intOf i).toNat)
    case atStart => exact ⟨0, Nat.zero_le _, rfl, Lib.hid (fun j hj => absurd hj (Nat.not_lt_zero _)), M0, Lib.hid (up_alloc (Below.refl _ _) _)⟩
    case round =>
      as_aux_lemma =>
      obtain ⟨k, hk, rfl, hN, hM, hB⟩ := hrel
      have b0 : (0 : Int) ≤ (k : Int) := by omega
      by_cases hlt : k < l.length
      · have b1 : (k : Int) < (l.length : Int) := by omega
        obtain ⟨V, hV⟩ : ∃ V, V = wr := ⟨_, rfl⟩
        rw [← hV] at hM hB ⊢
        clear hV
        obtain ⟨bp, fp, rfl, hbp, hc⟩ := (HP0.out.mono hB.out).cell hlt
        have hsl := HS.out _ (List.getElem_mem hlt)
        obtain ⟨o, ho⟩ : ∃ o, o = l[k] := ⟨_, rfl⟩
        have HO := Lib.hid ho
        rw [← ho] at hc hsl
        clear ho
        have c0 : V.cell? ⟨bp, fp + k * 6, none⟩ = some (.bool o.del) := hc 0 _ rfl
        have c1 : V.cell? ⟨bp, fp + k * 6 + 1, none⟩ = some (.int .i64 o.rep) := hc 1 _ rfl
        have c2 : V.cell? ⟨bp, fp + k * 6 + 2, none⟩ = some (.int .i64 o.cnt) := hc 2 _ rfl
        have c3 : V.cell? ⟨bp, fp + k * 6 + 3, none⟩ = some (.int .i64 o.arep) := hc 3 _ rfl
        have c4 : V.cell? ⟨bp, fp + k * 6 + 4, none⟩ = some (.int .i64 o.acnt) := hc 4 _ rfl
        have c5 : V.cell? ⟨bp, fp + k * 6 + 5, none⟩ = some (.string o.line) := hc 5 _ rfl
        clear hc
        have OB := Lib.hid (OpB.new V o)
        have UB := Lib.hid (boxO_up V o)
        unfold boxO at OB UB
        have FB := Lib.hid ((F0.out.mono (Below.refl V0.heap.size V0) (by omega)).mono hB.out (by omega))
        by_cases h0 : Sq.oC o = 0
        · have g1 : (Sq.oC o == 0) = true := by rw [beq_iff_eq]; exact h0
          have g2 : (Sq.oC o != 0) = false := by rw [h0]; rfl
          by_cases hin : o.id ∈ (l.take k).map Sq.O.id
          · obtain ⟨e1, e2⟩ := Sq.vC_at h60 hlt (by rw [Sq.cd_dup hlt (HO.out ▸ h0) (HO.out ▸ hin)]; decide) hN.out
            rw [Sq.cd_dup hlt (HO.out ▸ h0) (HO.out ▸ hin), HVC.out] at e1
            rw [HVI.out] at e2
            subst e1 e2
            clear HVC HVI
            go_wp2_with (first
              | (go_at_call 60; refine (codeOf_any o _ hsl).mono ?_; rintro e w2 ⟨rfl, hb2⟩; have OC := OB.out.up hb2; obtain ⟨q0, q1, q2, q3, q4, q5, _⟩ := OC)
              | (go_at_call 55; refine (identityOf_any o _).mono ?_; rintro e w3 ⟨rfl, hb3⟩; have hlk := ((hM.out.up (UB.out.trans (hb2.mono UB.out.size))).up hb3).ask (Sq.id_ok h0) rfl; rw [decide_eq_true hin] at hlk; have FC := (FB.out.up (UB.out.trans (hb2.mono UB.out.size))).up hb3; have f0 := FC.f0; have f1 := FC.f1; have k0 := FC.c0; have k1 := FC.c1))
            have F1 := FC.set2 7 k
            have d0 := F1.c0
            have d1 := F1.c1
            refine bodyPost_ret (v := .agg #[.int .i64 7, .int .i64 k]) (by simp [results, Try.results27, go_sem, d0, d1]) rfl ⟨rfl, ?_⟩
            have := up_call (up_call (up_call (up0.trans (hB.out.mono up0.size)) UB.out) hb2) hb3
            exact (this.setCell (p := ⟨w.heap.size, 0, none⟩) (by simp) _).setCell (p := ⟨w.heap.size, 1, none⟩) (by simp) _
          · have hcd := Sq.cd_ok hlt (HO.out ▸ h0) (HO.out ▸ hin)
            have tok1 : True := trivial
            go_wp2_with (first
              | (go_at_call 60; refine (codeOf_any o _ hsl).mono ?_; rintro e w2 ⟨rfl, hb2⟩; have OC := OB.out.up hb2; obtain ⟨q0, q1, q2, q3, q4, q5, _⟩ := OC)
              | (go_at_call 55; have _t := tok1; clear tok1 _t; refine (identityOf_any o _).mono ?_; rintro e w3 ⟨rfl, hb3⟩; have hlk := ((hM.out.up (UB.out.trans (hb2.mono UB.out.size))).up hb3).ask (Sq.id_ok h0) rfl; rw [decide_eq_false hin] at hlk; have OC := (OB.out.up hb2).up hb3; obtain ⟨r0, r1, r2, r3, r4, r5, _⟩ := OC)
              | (go_at_call 55; refine (identityOf_any o _).mono ?_; rintro e w4 ⟨rfl, hb4⟩; have hM4 := ((hM.out.up (UB.out.trans (hb2.mono UB.out.size))).up hb3).up hb4)
              | (at_mapUpdate; refine wp_see _ rfl _ _ _ rfl (w.heap.size + 1) k ((l.take k).map Sq.O.id) rfl hM4 (by omega) o.id rfl (Sq.id_ok h0) rfl ?_; intro w5 hM5 hg5))
            rw [show (l.take k).map Sq.O.id ++ [o.id] = (l.take (k + 1)).map Sq.O.id by rw [HO.out]; exact Sq.ids_next hlt] at hM5
            refine ⟨⟨k + 1, hlt, by simp, Lib.hid (fun j hj => ?_), Lib.hid hM5, Lib.hid ?_⟩, ?_⟩
            · rcases Nat.lt_succ_iff_lt_or_eq.1 hj with h | rfl
              · exact hN.out j h
              · exact hcd
            · have hb0 := (((hB.out.trans (UB.out.mono hB.out.size)).trans (hb2.mono (hB.out.trans (UB.out.mono hB.out.size)).size)).trans (hb3.mono ((hB.out.trans (UB.out.mono hB.out.size)).trans (hb2.mono (hB.out.trans (UB.out.mono hB.out.size)).size)).size))
              exact (hb0.trans (hb4.mono hb0.size)).grown hg5 (hb0.trans (hb4.mono hb0.size)).size (fun b hb => by cases hb; omega)
            · rw [show intOf (Value.int IntKind.i64 ((k : Int) + 1)) = (k : Int) + 1 from rfl, show intOf (Value.int IntKind.i64 (k : Int)) = (k : Int) from rfl]
              omega
        · have g1 : (Sq.oC o == 0) = false := by rw [beq_eq_false_iff_ne]; exact h0
          have g2 : (Sq.oC o != 0) = true := by rw [bne_iff_ne]; exact h0
          obtain ⟨e1, e2⟩ := Sq.vC_at h60 hlt (by rw [Sq.cd_bad hlt (HO.out ▸ h0)]; exact HO.out ▸ h0) hN.out
          rw [Sq.cd_bad hlt (HO.out ▸ h0), ← HO.out, HVC.out] at e1
          rw [HVI.out] at e2
          subst e1 e2
          clear HVC HVI
          go_wp2_with (go_at_call 60; refine (codeOf_any o _ hsl).mono ?_; rintro e w2 ⟨rfl, hb2⟩; have FC := FB.out.up (UB.out.trans (hb2.mono UB.out.size)); have f0 := FC.f0; have f1 := FC.f1; have k0 := FC.c0; have k1 := FC.c1)
          have F1 := FC.set2 (Sq.oC o) k
          have d0 := F1.c0
          have d1 := F1.c1
          refine bodyPost_ret (v := .agg #[.int .i64 (Sq.oC o), .int .i64 k]) (by simp [results, Try.results27, go_sem, d0, d1]) rfl ⟨rfl, ?_⟩
          have := up_call (up_call (up0.trans (hB.out.mono up0.size)) UB.out) hb2
          exact (this.setCell (p := ⟨w.heap.size, 0, none⟩) (by simp) _).setCell (p := ⟨w.heap.size, 1, none⟩) (by simp) _
      · have hkl : k = l.length := by omega
        subst hkl
        have b1 : ((l.length : Int) < (l.length : Int)) = False := by simp
        rename_i hKK
        have HK := Lib.hid hKK
        clear hKK
        go_wp2_with fail
        refine HK.out _ _ ?_
        clear HK
        obtain ⟨V, hV⟩ : ∃ V, V = wr := ⟨_, rfl⟩
        rw [← hV] at hM hB ⊢
        clear hV
        rw [List.take_length] at hM
        go_wp2_with fail
        go_loopw [43] (fun i wr => ∃ k : Nat, k ≤ l.length ∧ i = .int .i64 k ∧ Hid (∀ j, j < k → Sq.ms l j = false) ∧ Hid (Below V.heap.size V wr)) (fun i _ => l.length - (intOf i).toNat)
        case atStart => exact ⟨0, Nat.zero_le _, rfl, Lib.hid (fun j hj => absurd hj (Nat.not_lt_zero _)), Lib.hid (Below.refl _ _)⟩
        case round =>
          as_aux_lemma =>
          obtain ⟨k, hk, rfl, hL, hC⟩ := hrel
          have b0 : (0 : Int) ≤ (k : Int) := by omega
          have HB := Lib.hid (hB.out.trans (hC.out.mono hB.out.size))
          by_cases hlt : k < l.length
          · have b2 : (k : Int) < (l.length : Int) := by omega
            obtain ⟨X, hX⟩ : ∃ X, X = wr := ⟨_, rfl⟩
            rw [← hX] at hC HB ⊢
            clear hX
            obtain ⟨bp, fp, rfl, hbp, hc⟩ := (HP0.out.mono HB.out).cell hlt
            obtain ⟨o, ho⟩ : ∃ o, o = l[k] := ⟨_, rfl⟩
            have HO := Lib.hid ho
            rw [← ho] at hc
            clear ho
            have c0 : X.cell? ⟨bp, fp + k * 6, none⟩ = some (.bool o.del) := hc 0 _ rfl
            have c1 : X.cell? ⟨bp, fp + k * 6 + 1, none⟩ = some (.int .i64 o.rep) := hc 1 _ rfl
            have c2 : X.cell? ⟨bp, fp + k * 6 + 2, none⟩ = some (.int .i64 o.cnt) := hc 2 _ rfl
            have c3 : X.cell? ⟨bp, fp + k * 6 + 3, none⟩ = some (.int .i64 o.arep) := hc 3 _ rfl
            have c4 : X.cell? ⟨bp, fp + k * 6 + 4, none⟩ = some (.int .i64 o.acnt) := hc 4 _ rfl
            have c5 : X.cell? ⟨bp, fp + k * 6 + 5, none⟩ = some (.string o.line) := hc 5 _ rfl
            clear hc
            have OB := Lib.hid (OpB.new X o)
            have UB := Lib.hid (boxO_up X o)
            unfold boxO at OB UB
            have FB := Lib.hid ((F0.out.mono (Below.refl V0.heap.size V0) (by omega)).mono HB.out (by omega))
            have hms := Sq.ms_at hlt
            rw [← HO.out] at hms
            have h0 : Sq.oC o = 0 := by rw [HO.out]; exact Sq.cd_code hlt (hN.out k hlt)
            have hok := Sq.nd_ok h0
            have kn := neededBy_any o
            rw [show (if o.del then o.el else o.pr) = o.nd from rfl] at kn
            obtain ⟨a, b, hab⟩ : ∃ a b, o.nd = (a, b) := ⟨_, _, rfl⟩
            rw [hab] at hms hok kn
            have HMS := Lib.hid hms
            clear hms hab
            have hz : (a = 0 ∧ b = 0) ∨ ¬ a = 0 ∨ (a = 0 ∧ ¬ b = 0) := by omega
            rcases hz with ⟨rfl, rfl⟩ | hz
            · go_wp2_with (go_at_call 61; refine (show Calls Try.prog 61 _ _ (BPost (.agg #[.int .i64 0, .int .i64 0]) _) from kn _).mono ?_; rintro e w2 ⟨rfl, hb2⟩)
              refine ⟨⟨k + 1, hlt, by simp, Lib.hid (fun j hj => ?_), Lib.hid ?_⟩, ?_⟩
              · rcases Nat.lt_succ_iff_lt_or_eq.1 hj with h | rfl
                · exact hL.out j h
                · rw [HMS.out]
                  simp
              · exact up_alloc ((hC.out.trans (UB.out.mono hC.out.size)).trans (hb2.mono (hC.out.trans (UB.out.mono hC.out.size)).size)) _
              · rw [show intOf (Value.int IntKind.i64 ((k : Int) + 1)) = (k : Int) + 1 from rfl, show intOf (Value.int IntKind.i64 (k : Int)) = (k : Int) from rfl]
                omega
            · rcases hz with hz | ⟨rfl, hz⟩
              · cases hin' : decide (((a, b), 0) ∈ l.map Sq.O.id)
                · have hin := of_decide_eq_false hin'
                  obtain ⟨e1, e2⟩ := Sq.vC_miss h60 hN.out hlt (by rw [HMS.out]; exact decide_eq_true ⟨by simp [hz], hin⟩) hL.out
                  rw [HVC.out] at e1
                  rw [HVI.out] at e2
                  subst e1 e2
                  clear HVC HVI
                  have hid : idOk ((a, b), 0) := ⟨hok, (by decide : (Lit.int .i64 0).wf = true)⟩
                  go_wp2_with (go_at_call 61; refine (show Calls Try.prog 61 _ _ (BPost (.agg #[.int .i64 a, .int .i64 b]) _) from kn _).mono ?_; rintro e w2 ⟨rfl, hb2⟩; have hlk := (((hM.out.up (hC.out.trans (UB.out.mono hC.out.size))).up hb2).up (up_alloc (Below.refl _ _) (.cells #[.int .i64 a, .int .i64 b] 77 (0, 0)))).ask (x := ((a, b), 0)) (k := .agg #[.int .i64 a, .int .i64 b, .int .i64 0]) hid rfl; rw [decide_eq_false hin] at hlk; have FC := (FB.out.up (UB.out.trans (hb2.mono UB.out.size))).up (up_alloc (Below.refl _ _) (.cells #[.int .i64 a, .int .i64 b] 77 (0, 0))); have f0 := FC.f0; have f1 := FC.f1; have k0 := FC.c0; have k1 := FC.c1)
                  have F1 := FC.set2 6 k
                  have d0 := F1.c0
                  have d1 := F1.c1
                  refine bodyPost_ret (v := .agg #[.int .i64 6, .int .i64 k]) (by simp [results, Try.results27, go_sem, d0, d1]) rfl ⟨rfl, ?_⟩
                  have := up_alloc (up_call (up_call (up0.trans (HB.out.mono up0.size)) UB.out) hb2) (.cells #[.int .i64 a, .int .i64 b] 77 (0, 0))
                  exact (this.setCell (p := ⟨w.heap.size, 0, none⟩) (by simp) _).setCell (p := ⟨w.heap.size, 1, none⟩) (by simp) _
                · have hin := of_decide_eq_true hin'
                  have hid : idOk ((a, b), 0) := ⟨hok, (by decide : (Lit.int .i64 0).wf = true)⟩
                  go_wp2_with (go_at_call 61; refine (show Calls Try.prog 61 _ _ (BPost (.agg #[.int .i64 a, .int .i64 b]) _) from kn _).mono ?_; rintro e w2 ⟨rfl, hb2⟩; have hlk := (((hM.out.up (hC.out.trans (UB.out.mono hC.out.size))).up hb2).up (up_alloc (Below.refl _ _) (.cells #[.int .i64 a, .int .i64 b] 77 (0, 0)))).ask (x := ((a, b), 0)) (k := .agg #[.int .i64 a, .int .i64 b, .int .i64 0]) hid rfl; rw [decide_eq_true hin] at hlk)
                  refine ⟨⟨k + 1, hlt, by simp, Lib.hid (fun j hj => ?_), Lib.hid ?_⟩, ?_⟩
                  · rcases Nat.lt_succ_iff_lt_or_eq.1 hj with h | rfl
                    · exact hL.out j h
                    · rw [HMS.out]
                      exact decide_eq_false (fun h => h.2 hin)
                  · exact up_alloc ((hC.out.trans (UB.out.mono hC.out.size)).trans (hb2.mono (hC.out.trans (UB.out.mono hC.out.size)).size)) _
                  · rw [show intOf (Value.int IntKind.i64 ((k : Int) + 1)) = (k : Int) + 1 from rfl, show intOf (Value.int IntKind.i64 (k : Int)) = (k : Int) from rfl]
                    omega
              · cases hin' : decide (((0, b), 0) ∈ l.map Sq.O.id)
                · have hin := of_decide_eq_false hin'
                  obtain ⟨e1, e2⟩ := Sq.vC_miss h60 hN.out hlt (by rw [HMS.out]; exact decide_eq_true ⟨by simp [hz], hin⟩) hL.out
                  rw [HVC.out] at e1
                  rw [HVI.out] at e2
                  subst e1 e2
                  clear HVC HVI
                  have hid : idOk ((0, b), 0) := ⟨hok, (by decide : (Lit.int .i64 0).wf = true)⟩
                  go_wp2_with (go_at_call 61; refine (show Calls Try.prog 61 _ _ (BPost (.agg #[.int .i64 0, .int .i64 b]) _) from kn _).mono ?_; rintro e w2 ⟨rfl, hb2⟩; have hlk := (((hM.out.up (hC.out.trans (UB.out.mono hC.out.size))).up hb2).up (up_alloc (Below.refl _ _) (.cells #[.int .i64 0, .int .i64 b] 77 (0, 0)))).ask (x := ((0, b), 0)) (k := .agg #[.int .i64 0, .int .i64 b, .int .i64 0]) hid rfl; rw [decide_eq_false hin] at hlk; have FC := (FB.out.up (UB.out.trans (hb2.mono UB.out.size))).up (up_alloc (Below.refl _ _) (.cells #[.int .i64 0, .int .i64 b] 77 (0, 0))); have f0 := FC.f0; have f1 := FC.f1; have k0 := FC.c0; have k1 := FC.c1)
                  have F1 := FC.set2 6 k
                  have d0 := F1.c0
                  have d1 := F1.c1
                  refine bodyPost_ret (v := .agg #[.int .i64 6, .int .i64 k]) (by simp [results, Try.results27, go_sem, d0, d1]) rfl ⟨rfl, ?_⟩
                  have := up_alloc (up_call (up_call (up0.trans (HB.out.mono up0.size)) UB.out) hb2) (.cells #[.int .i64 0, .int .i64 b] 77 (0, 0))
                  exact (this.setCell (p := ⟨w.heap.size, 0, none⟩) (by simp) _).setCell (p := ⟨w.heap.size, 1, none⟩) (by simp) _
                · have hin := of_decide_eq_true hin'
                  have hid : idOk ((0, b), 0) := ⟨hok, (by decide : (Lit.int .i64 0).wf = true)⟩
                  go_wp2_with (go_at_call 61; refine (show Calls Try.prog 61 _ _ (BPost (.agg #[.int .i64 0, .int .i64 b]) _) from kn _).mono ?_; rintro e w2 ⟨rfl, hb2⟩; have hlk := (((hM.out.up (hC.out.trans (UB.out.mono hC.out.size))).up hb2).up (up_alloc (Below.refl _ _) (.cells #[.int .i64 0, .int .i64 b] 77 (0, 0)))).ask (x := ((0, b), 0)) (k := .agg #[.int .i64 0, .int .i64 b, .int .i64 0]) hid rfl; rw [decide_eq_true hin] at hlk)
                  refine ⟨⟨k + 1, hlt, by simp, Lib.hid (fun j hj => ?_), Lib.hid ?_⟩, ?_⟩
                  · rcases Nat.lt_succ_iff_lt_or_eq.1 hj with h | rfl
                    · exact hL.out j h
                    · rw [HMS.out]
                      exact decide_eq_false (fun h => h.2 hin)
                  · exact up_alloc ((hC.out.trans (UB.out.mono hC.out.size)).trans (hb2.mono (hC.out.trans (UB.out.mono hC.out.size)).size)) _
                  · rw [show intOf (Value.int IntKind.i64 ((k : Int) + 1)) = (k : Int) + 1 from rfl, show intOf (Value.int IntKind.i64 (k : Int)) = (k : Int) from rfl]
                    omega
          · have hkl : k = l.length := by omega
            subst hkl
            have b2 : ((l.length : Int) < (l.length : Int)) = False := by simp
            obtain ⟨e1, e2⟩ := Sq.vC_ok h60 hN.out hL.out
            rw [HVC.out] at e1
            rw [HVI.out] at e2
            subst e1 e2
            clear HVC HVI
            rename_i hKK
            have HK := Lib.hid hKK
            clear hKK
            go_wp2_with fail
            refine HK.out _ _ ?_
            clear HK
            have FC := (F0.out.mono (Below.refl V0.heap.size V0) (by omega)).mono HB.out (by omega)
            have f0 := FC.f0
            have f1 := FC.f1
            have k0 := FC.c0
            have k1 := FC.c1
            go_wp2_with fail
            have F1 := FC.set2 0 0
            have d0 := F1.c0
            have d1 := F1.c1
            refine bodyPost_ret (v := .agg #[.int .i64 0, .int .i64 0]) (by simp [results, Try.results27, go_sem, d0, d1]) rfl ⟨rfl, ?_⟩
            have := up0.trans (HB.out.mono up0.size)
            exact (this.setCell (p := ⟨w.heap.size, 0, none⟩) (by simp) _).setCell (p := ⟨w.heap.size, 1, none⟩) (by simp) _
end Go.Proofs.Ytidncnhhjfdifaa
