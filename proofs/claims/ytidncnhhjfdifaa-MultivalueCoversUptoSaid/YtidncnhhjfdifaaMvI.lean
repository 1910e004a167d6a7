
/-
  Package multivalue: what remains of a register, walked.
-/
import Derived.Test.YtidncnhhjfdifaaMvH
import Derived.Test.YtidncnhhjfdifaaRegC
namespace Go.Proofs.Ytidncnhhjfdifaa
open Go.RowKit
set_option maxRecDepth 4000

/-- a comparison of vectors that can be handed on -/
structure Beats (f : FuncId) (beats : List Int → List Int → Bool) : Prop where
  enters : Enters Try.prog f
  run : ∀ (p q : Option Addr) (a b : List Int) (cap cap' : Nat) (w : World), Row nE w p a → Row nE w q b → a.length = b.length → b.length ≤ 100 →
    Calls Try.prog f #[.slice p a.length cap, .slice q b.length cap'] w (SPost (.bool (beats a b)) w)
theorem beats_sup : Beats 42 Mv.sup := ⟨enters_of Try.func42 (by kernel_rfl) rfl, fun p q a b cap cap' w h1 h2 h3 h4 => supersedes_any p q a b cap cap' w h1 h2 h3 h4⟩
theorem beats_cov : Beats 43 Mv.cov := ⟨enters_of Try.func43 (by kernel_rfl) rfl, fun p q a b cap cap' w h1 h2 h3 h4 => covers_any p q a b cap cap' w h1 h2 (by omega) h4⟩
theorem remIn_any {f : FuncId} {beats : List Int → List Int → Bool} (hf : Beats f beats) (gb gv : Nat) (v e : Mv.R) (w : World) (hb : w.cell? ⟨gb, 0, none⟩ = some (.func (.func f) #[] #[])) (hv : VB w gv v) (rv : Row nE w v.p v.vec) (re : Row nE w e.p e.vec) (hl : e.vec.length = v.vec.length) (hvl : v.vec.length ≤ 100) :
    Calls Try.prog 69 (#[.agg #[.int .i64 e.val, .slice e.p e.vec.length e.cap]] ++ #[.pointer (some ⟨gb, 0, none⟩), .pointer (some ⟨gv, 0, none⟩)]) w (BPost (.bool (beats e.vec v.vec)) w) := by
  have up0 := boxV_up w e
  have V1 := VB.new w e
  have V2 := hv.up up0
  have c9 := (up0.cell (p := ⟨gb, 0, none⟩) (cell_block_lt hb)).trans hb
  have CL := Lib.hid (hf.run e.p v.p e.vec v.vec e.cap v.cap _ (re.mono up0) (rv.mono up0) hl hvl)
  have ef' : ∀ (args : Array Value) (w : World), (callFunc f args).run Try.prog w = .ok (.enter f args) w := hf.enters
  clear hb hv rv re
  obtain ⟨e0, ep, ec, ev⟩ := e
  obtain ⟨v0, vp, vc, vv⟩ := v
  unfold boxV at up0 V1 V2 CL c9
  dsimp only at up0 V1 V2 CL c9 hl hvl ⊢
  obtain ⟨c0, c1, -⟩ := V1
  obtain ⟨d0, d1, -⟩ := V2
  dsimp only at c0 c1 d0 d1
  clear hl
  generalize beats ev vv = x at CL ⊢
  show Calls Try.prog 69 #[.agg #[.int .i64 e0, .slice ep ev.length ec], .pointer (some ⟨gb, 0, none⟩), .pointer (some ⟨gv, 0, none⟩)] w _
  go_enter Try.func69, Try.ntmps69
  go_wp2_with fail
  refine CL.out.mono ?_
  rintro e w2 ⟨rfl, rfl⟩
  go_wp2_with fail
  go_ret
  exact ⟨rfl, up0⟩
/-- the values kept so far: a row of the call's own, each vector a copy of the call's own -/
structure Kept (B : Nat) (w : World) (v : Value) (rs : List Mv.R) : Prop where
  own : OwnE rwE B w v rs
  vec : ∀ r ∈ rs, OwnE nE B w (.slice r.p r.vec.length r.cap) r.vec
theorem Kept.up {B : Nat} {w w' : World} {v : Value} {rs : List Mv.R} (h : Kept B w v rs) (hb : Below w.heap.size w w') : Kept B w' v rs := ⟨ownE_upG h.own hb, fun r hr => ownE_upG (h.vec r hr) hb⟩
theorem Kept.vs {B : Nat} {w : World} {v : Value} {rs : List Mv.R} (h : Kept B w v rs) : ∃ p cap, v = .slice p rs.length cap ∧ Vs w p rs ∧ (p = none → cap = 0) ∧ rs.length ≤ cap := by
  obtain ⟨p, cap, e, hr, h1, h2, -⟩ := row_of_own h.own
  refine ⟨p, cap, e, ⟨hr, fun r hr => ?_⟩, h1, h2⟩
  obtain ⟨p', cap', e', hr', -, -, -⟩ := row_of_own (h.vec r hr)
  cases e'
  exact hr'
/-- the slots of the region that appends -/
def remS (B g : Nat) (r : Mv.R) (kv : Value) (ks : List Mv.R) (b : Bool) : Nat → Value → World → Prop
  | 0, v, _ => v = kv
  | 1, v, _ => v = .pointer (some ⟨g, 0, none⟩)
  | 2, v, _ => v = .int .i64 r.val
  | 3, v, _ => v = .pointer (some ⟨g, 1, none⟩)
  | 4, v, _ => v = .slice r.p r.vec.length r.cap
  | 5, v, w => ∃ q c, v = .slice q r.vec.length c ∧ OwnE nE B w (.slice q r.vec.length c) r.vec
  | 6, v, w => ∃ q c, v = .agg #[.int .i64 r.val, .slice q r.vec.length c] ∧ OwnE nE B w (.slice q r.vec.length c) r.vec
  | 7, v, w => ∃ q c a, v = .slice (some ⟨a, 0, none⟩) 1 1 ∧ OwnE nE B w (.slice q r.vec.length c) r.vec ∧ (b = true ∨ Row rwE w (some ⟨a, 0, none⟩) [⟨r.val, q, c, r.vec⟩])
  | 8, v, w => b = true ∧ ∃ q c, Kept B w v (ks ++ [⟨r.val, q, c, r.vec⟩])
  | _, _, _ => True
theorem remS_up {B g : Nat} {r : Mv.R} {kv : Value} {ks : List Mv.R} {b q : Bool} {w w' : World} (hb : Below w.heap.size w w') (hq : q = false) : ∀ {j : Nat} {v : Value}, remS B g r kv ks b j v w → remS B g r kv ks (b || q) j v w' := by
  subst hq
  rw [Bool.or_false]
  intro j v h
  match j, h with
  | 0, h | 1, h | 2, h | 3, h | 4, h => exact h
  | 5, ⟨q, c, h1, h2⟩ | 6, ⟨q, c, h1, h2⟩ => exact ⟨q, c, h1, ownE_upG h2 hb⟩
  | 7, ⟨q, c, a, h1, h2, h3⟩ => exact ⟨q, c, a, h1, ownE_upG h2 hb, h3.imp id fun h => h.mono hb⟩
  | 8, ⟨h0, q, c, h⟩ => exact ⟨h0, q, c, h.up hb⟩
  | _ + 9, _ => trivial
theorem remS_app {B g : Nat} {r : Mv.R} {kv : Value} {ks : List Mv.R} {w w' : World} (hK : Kept B w kv ks) (gr : w.grownBy w' kv.ownBlock) : ∀ {j : Nat} {v : Value}, j ≠ 8 → remS B g r kv ks false j v w → remS B g r kv ks true j v w' := by
  intro j v hj h
  match j, hj, h with
  | 0, _, h | 1, _, h | 2, _, h | 3, _, h | 4, _, h => exact h
  | 5, _, ⟨q, c, h1, h2⟩ | 6, _, ⟨q, c, h1, h2⟩ => exact ⟨q, c, h1, h2.keptG (by decide) hK.own gr⟩
  | 7, _, ⟨q, c, a, h1, h2, _⟩ => exact ⟨q, c, a, h1, h2.keptG (by decide) hK.own gr, .inl rfl⟩
  | 8, hj, _ => exact (hj rfl).elim
  | _ + 9, _, _ => trivial
/-- what holds of the world within that region -/
def remC (W : World) (g : Nat) (r : Mv.R) (kv : Value) (ks : List Mv.R) (b : Bool) (w : World) : Prop := Below W.heap.size W w ∧ VB w g r ∧ (b = true ∨ Kept W.heap.size w kv ks)
theorem remC_up {W : World} {g : Nat} {r : Mv.R} {kv : Value} {ks : List Mv.R} {b q : Bool} {w w' : World} (h : remC W g r kv ks b w) (hb : Below w.heap.size w w') (hq : q = false) : remC W g r kv ks (b || q) w' := by
  subst hq
  rw [Bool.or_false]
  exact ⟨h.1.trans (hb.mono h.1.size), h.2.1.up hb, h.2.2.imp id fun h => h.up hb⟩
/-- one more value is kept -/
theorem Kept.push {B : Nat} {w : World} {kv : Value} {ks : List Mv.R} {r : Mv.R} {a : Nat} (h : Kept B w kv ks) (ho : OwnE nE B w (.slice r.p r.vec.length r.cap) r.vec) (hr : Row rwE w (some ⟨a, 0, none⟩) [r]) (ty : TypeId) (hB : B ≤ w.heap.size) (hl : ks.length ≤ 1000) :
    ∃ v' w', (Builtin.append_ #[22, 22] ty #[kv, .slice (some ⟨a, 0, none⟩) 1 1]).run Try.prog w = .ok v' w' ∧ Kept B w' v' (ks ++ [r]) ∧ w.grownBy w' kv.ownBlock := by
  obtain ⟨v', w', hrun, h1, h2⟩ := run_appN rwE ty h.own hr (c := 1) (fun e => by cases e) hB (by simp [rwE]; omega) (by unfold maxLen; simp; omega)
  refine ⟨v', w', hrun, ⟨h1, fun x hx => ?_⟩, h2⟩
  rcases List.mem_append.1 hx with hx | hx
  · exact (h.vec x hx).keptG (by decide) h.own h2
  · rw [List.mem_singleton.1 hx]
    exact ho.keptG (by decide) h.own h2
theorem VB.grown {w w' : World} {g : Nat} {r : Mv.R} {row : Option Nat} (h : VB w g r) (gr : w.grownBy w' row) (hr : row ≠ some g) : VB w' g r :=
  ⟨gr.cell h.c0 (Ne.symm hr), gr.cell h.c1 (Ne.symm hr), Nat.lt_of_lt_of_le h.lt gr.size⟩
theorem rem_next {rs : List Mv.R} {k : Nat} (h : k < rs.length) (o : List Mv.V) (beats : List Int → List Int → Bool) :
    Mv.rem (Mv.vs (rs.take (k + 1))) o beats = Mv.rem (Mv.vs (rs.take k)) o beats ++ if (o.any fun w => beats w.vec rs[k].vec) = true then [] else [rs[k].v] := by
  unfold Mv.rem Mv.vs
  rw [List.take_succ_eq_append_getElem h, List.map_append, List.filter_append]
  congr 1
  simp only [List.map_cons, List.map_nil, List.filter_cons, List.filter_nil]
  rw [show rs[k].v.vec = rs[k].vec from rfl]
  cases o.any fun w => beats w.vec rs[k].vec <;> rfl
set_option maxRecDepth 100000 in
set_option maxHeartbeats 4000000 in
theorem remaining_any {f : FuncId} {beats : List Int → List Int → Bool} (hf : Beats f beats) (p q : Option Addr) (rs ro : List Mv.R) (cap cq : Nat) (w : World) (hp : Vs w p rs) (hq : Vs w q ro) (hl : rs.length ≤ 100) (hlo : ro.length ≤ 100) (h6 : ∀ r ∈ rs, r.vec.length = 6) (ho6 : ∀ r ∈ ro, r.vec.length = 6) :
    Calls Try.prog 41 #[.slice p rs.length cap, .slice q ro.length cq, .func (.func f) #[] #[]] w (fun e w' => ∃ v ks, e = .returned v ∧ Kept (w.heap.size + 1) w' v ks ∧ Mv.vs ks = Mv.rem (Mv.vs rs) (Mv.vs ro) beats ∧ Below w.heap.size w w') := by
  have up0 := up_alloc (Below.refl w.heap.size w) (.cells #[.func (.func f) #[] #[]] 65 (0, 0))
  have c9 : (w.alloc (.cells #[.func (.func f) #[] #[]] 65 (0, 0))).cell? ⟨w.heap.size, 0, none⟩ = some (.func (.func f) #[] #[]) := by rw [World.cell?_alloc_mark]; rfl
  have HP := Lib.hid (hp.mono up0)
  have HQ := Lib.hid (hq.mono up0)
  have H6 := Lib.hid h6
  have HO6 := Lib.hid ho6
  have z0 : (w.alloc (.cells #[.func (.func f) #[] #[]] 65 (0, 0))).heap.size = w.heap.size + 1 := by simp
  clear hp hq h6 ho6
  go_enter Try.func41, Try.ntmps41
  go_wp2_with fail
  generalize w.alloc (.cells #[.func (.func f) #[] #[]] 65 (0, 0)) = W at up0 c9 HP HQ z0 ⊢
  have U0 := Lib.hid up0
  have C9 := Lib.hid c9
  clear up0 c9
  have Z0 := Lib.hid z0
  clear z0
  go_loopw [7, 12] (fun kv iv wr => ∃ (k : Nat) (ks : List Mv.R), k ≤ rs.length ∧ iv = .int .i64 k ∧ Hid (ks.length ≤ k) ∧ Hid (Kept W.heap.size wr kv ks) ∧ Hid (Mv.vs ks = Mv.rem (Mv.vs (rs.take k)) (Mv.vs ro) beats) ∧ Hid (Below W.heap.size W wr)) (fun _ iv _ => rs.length - (intOf iv).toNat)
  case atStart => exact ⟨0, [], Nat.zero_le _, rfl, Lib.hid (Nat.le_refl _), Lib.hid ⟨ownE_nil _ _ _, fun r hr => by cases hr⟩, Lib.hid rfl, Lib.hid (Below.refl _ _)⟩
  case round =>
    as_aux_lemma =>
    obtain ⟨k, ks, hk, rfl, hKL, hK, hV, hB⟩ := hrel
    have b0 : (0 : Int) ≤ (k : Int) := by omega
    by_cases hlt : k < rs.length
    · have g1 : decide ((k : Int) < (rs.length : Int)) = true := decide_eq_true (by omega)
      have g1' : decide (k < rs.length) = true := decide_eq_true hlt
      have b1 : (k : Int) < (rs.length : Int) := by omega
      obtain ⟨b, off, rfl, hb, c0, c1, hr⟩ := (HP.out.mono hB.out).cell hlt
      have NX := Lib.hid (rem_next hlt (Mv.vs ro) beats)
      have hr0 := HP.out.vec _ (List.getElem_mem hlt)
      have hv6 := H6.out _ (List.getElem_mem hlt)
      have HLT := Lib.hid hlt
      obtain ⟨r, hx⟩ : ∃ x, x = rs[k]'hlt := ⟨_, rfl⟩
      rw [← hx] at c0 c1 hr hr0 NX hv6
      clear hx
      have U2 := boxV_up wr r
      have VB2 := Lib.hid (VB.new wr r)
      have RW := Lib.hid (hr.mono U2)
      have R0 := Lib.hid hr0
      have KW := Lib.hid (hK.out.up U2)
      have BW := Lib.hid (hB.out.trans (U2.mono hB.out.size))
      have CL := Lib.hid (hasV_any 69 #[.pointer (some ⟨w.heap.size, 0, none⟩), .pointer (some ⟨wr.heap.size, 0, none⟩)] (fun e => beats e.vec r.vec) q ro cq _ ((HQ.out.mono BW.out)) hlo (enters_of Try.func69 (by kernel_rfl) rfl)
        (fun e he W2 hW2 => remIn_any hf w.heap.size wr.heap.size r e W2 ((hW2.cell (p := ⟨w.heap.size, 0, none⟩) (Nat.lt_of_lt_of_le (cell_block_lt C9.out) BW.out.size)).trans ((BW.out.cell (p := ⟨w.heap.size, 0, none⟩) (cell_block_lt C9.out)).trans C9.out)) (VB2.out.up hW2) (RW.out.mono hW2) (((HQ.out.mono BW.out).vec e he).mono hW2) (by rw [HO6.out e he, hv6]) (by omega)))
      rw [vs_any] at NX
      rw [show (ro.any fun e => beats e.v.vec r.vec) = ro.any (fun e => beats e.vec r.vec) from rfl] at NX
      generalize (ro.any fun e => beats e.vec r.vec) = x at CL NX
      have V6 := Lib.hid hv6
      obtain ⟨y, yp, yc, yv⟩ := r
      unfold boxV at U2 VB2 RW KW BW CL
      dsimp only at U2 VB2 RW R0 KW BW CL c0 c1 V6 NX
      have KB := Lib.hid (fun (kb : Nat) (e : u7.ownBlock = some kb) => (ownE_block hK.out.own kb e).2)
      clear hr hr0 hv6
      cases x with
      | true =>
        go_wp2_with fail
        refine CL.out.mono ?_
        rintro e w2 ⟨rfl, hb2⟩
        have KN := Lib.hid (KW.out.up hb2)
        have BN := Lib.hid (BW.out.trans (hb2.mono BW.out.size))
        have VN : Hid (Mv.vs ks = Mv.rem (Mv.vs (rs.take (k + 1))) (Mv.vs ro) beats) := Lib.hid (by rw [NX.out, hV.out]; simp)
        have LN : Hid (ks.length ≤ k + 1) := Lib.hid (Nat.le_succ_of_le hKL.out)
        clear hb2
        go_wp2_with fail
        go_roundw
        case rel => exact ⟨k + 1, ks, HLT.out, by go_num, LN, KN, VN, BN⟩
        case measure => simp [intOf]; omega
      | false =>
        go_wp2_with fail
        refine CL.out.mono ?_
        rintro e w2 ⟨rfl, hb2⟩
        have KN := Lib.hid (KW.out.up hb2)
        have BN := Lib.hid (BW.out.trans (hb2.mono BW.out.size))
        have VN := Lib.hid (VB2.out.up hb2)
        have RN := Lib.hid (RW.out.mono hb2)
        clear hb2
        go_wp2_with fail
        have NN : Hid (yp = none → yc = 0) := Lib.hid (fun e => by have h6 := V6.out; rw [RN.out.nil' e] at h6; cases h6)
        have KL : Hid (ks.length ≤ 100) := Lib.hid (by have := hKL.out; omega)
        rename_i hKK
        clear CL
        refine region_factsC (by kernel_rfl) (by kernel_rfl) (fun x => { tmps := #[.slice (some ⟨b, off, none⟩) rs.length cap, .slice q ro.length cq, .func (.func f) #[] #[], undef, undef, .pointer (some ⟨w.heap.size, 0, none⟩), .slice none 0 0, u7, undef, .pointer (some ⟨wr.heap.size, 0, none⟩), .slice (some ⟨b, off, none⟩) rs.length cap, .int .i64 (rs.length : Nat), .int .i64 (k : Nat), .bool true, .pointer (some ⟨b, off + k * 2, none⟩), .agg #[.int .i64 y, .slice yp yv.length yc], .slice q ro.length cq, .func (.func 69) #[] #[.pointer (some ⟨w.heap.size, 0, none⟩), .pointer (some ⟨wr.heap.size, 0, none⟩)], .bool false, .bool true, x 0, x 1, x 2, x 3, x 4, x 5, x 6, x 7, x 8, u29, undef], defers := [] }) (fun j => #[u20, u21, u22, u23, u24, u25, u26, u27, u28].getD j undef) rfl
          (remC W wr.heap.size ⟨y, yp, yc, yv⟩ u7 ks) 8 (remS W.heap.size wr.heap.size ⟨y, yp, yc, yv⟩ u7 ks) (by simp) ⟨BN.out.drew, VN.out.up ((Below.refl _ _).drew), .inr (KN.out.up ((Below.refl _ _).drew))⟩ ?_ (by simp)
        refine steps_consC ?_ (steps_consC ?_ (steps_consC ?_ (steps_consC ?_ (steps_consC ?_ (steps_consC ?_ (steps_consC ?_ (steps_consC ?_ (steps_consC ?_ (steps_lastC ?_)))))))))
        · refine step_mkC [] rfl rfl (fun _ _ => rfl) ?_
          intro x w5 b hb hC hd K hK
          dsimp only at hK ⊢
          go_simp
          exact hK _ _ (remC_up hC (Below.refl _ _) rfl) rfl (fun j u _ h => remS_up (Below.refl _ _) rfl h)
        · refine step_mkC [] rfl rfl (fun _ _ => rfl) ?_
          intro x w5 b hb hC hd K hK
          dsimp only at hK ⊢
          go_simp
          exact hK _ _ (remC_up hC (Below.refl _ _) rfl) rfl (fun j u _ h => remS_up (Below.refl _ _) rfl h)
        · refine step_mkC [1] rfl rfl (fun _ _ => rfl) ?_
          intro x w5 b hb hC hd K hK
          have e1 : x 1 = _ := hd 1 (by simp)
          have c0 := hC.2.1.c0
          dsimp only at hK ⊢
          simp only [e1] at hK ⊢
          go_simp
          exact hK _ _ (remC_up hC (Below.refl _ _) rfl) rfl (fun j u _ h => remS_up (Below.refl _ _) rfl h)
        · refine step_mkC [] rfl rfl (fun _ _ => rfl) ?_
          intro x w5 b hb hC hd K hK
          dsimp only at hK ⊢
          go_simp
          exact hK _ _ (remC_up hC (Below.refl _ _) rfl) rfl (fun j u _ h => remS_up (Below.refl _ _) rfl h)
        · refine step_mkC [3] rfl rfl (fun _ _ => rfl) ?_
          intro x w5 b hb hC hd K hK
          have e3 : x 3 = _ := hd 3 (by simp)
          have c1 := hC.2.1.c1
          dsimp only at hK ⊢
          simp only [e3] at hK ⊢
          go_simp
          exact hK _ _ (remC_up hC (Below.refl _ _) rfl) rfl (fun j u _ h => remS_up (Below.refl _ _) rfl h)
        · refine step_mkC [4] rfl rfl (fun _ _ => rfl) ?_
          intro x w5 b hb hC hd K hK
          have e4 : x 4 = _ := hd 4 (by simp)
          dsimp only at hK ⊢
          simp only [e4] at hK ⊢
          go_simp
          refine (nclone_any yp yv yc w5 (R0.out.mono hC.1) NN.out (by rw [V6.out]; decide)).mono ?_
          rintro e w6 ⟨q5, c5, rfl, own, hbl⟩
          exact hK _ _ (remC_up hC hbl rfl) ⟨q5, c5, rfl, ownE_leG own hC.1.size⟩ (fun j u _ h => remS_up hbl rfl h)
        · refine step_mkC [2, 5] rfl rfl (fun _ _ => rfl) ?_
          intro x w5 b hb hC hd K hK
          have e2 : x 2 = _ := hd 2 (by simp)
          obtain ⟨q5, c5, e5, own⟩ := hd 5 (by simp)
          dsimp only at hK ⊢
          simp only [e2, e5] at hK ⊢
          go_simp
          exact hK _ _ (remC_up hC (Below.refl _ _) rfl) ⟨q5, c5, rfl, own⟩ (fun j u _ h => remS_up (Below.refl _ _) rfl h)
        · refine step_mkC [6] rfl rfl (fun _ _ => rfl) ?_
          intro x w5 b hb hC hd K hK
          obtain ⟨q5, c5, e6, own⟩ := hd 6 (by simp)
          dsimp only at hK ⊢
          simp only [e6] at hK ⊢
          go_simp
          exact hK _ _ (remC_up hC (up_alloc (Below.refl _ _) _) rfl) ⟨q5, c5, _, rfl, ownE_upG own (up_alloc (Below.refl _ _) _), .inr (vrow_one w5 _ ⟨y, q5, c5, yv⟩ rfl)⟩ (fun j u _ h => remS_up (up_alloc (Below.refl _ _) _) rfl h)
        · refine step_mkC [0, 7, 5] rfl rfl (fun _ _ => rfl) ?_
          intro x w5 b hb hC hd K hK
          have hbf := hb rfl
          subst hbf
          have e0 : x 0 = _ := hd 0 (by simp)
          obtain ⟨q5, c5, a5, e7, own, hrow⟩ := hd 7 (by simp)
          have hk5 := hC.2.2.resolve_left (by decide)
          obtain ⟨v', w', hrun, hkn, hgr⟩ := hk5.push (r := ⟨y, q5, c5, yv⟩) own (hrow.resolve_left (by decide)) 22 hC.1.size (by have := KL.out; omega)
          dsimp only at hK ⊢
          simp only [e0, e7] at hK ⊢
          refine step_app_run (.tmp 20) (.tmp 27) 22 rfl rfl rfl hrun ?_
          have hbl : Below W.heap.size W w' := hC.1.grown hgr hC.1.size (fun kb hkb => (ownE_block hk5.own kb hkb).1)
          exact hK _ _ ⟨hbl, hC.2.1.grown hgr (fun e => Nat.lt_irrefl _ (KB.out _ e)), .inl rfl⟩ ⟨rfl, q5, c5, hkn⟩ (fun j u hj h => remS_app hk5 hgr hj h)
        · refine tail_mkC rfl ?_
          intro x w5 hC hd K hK
          obtain ⟨-, q5, c5, hkn⟩ := hd 8 (by omega)
          have KN2 := Lib.hid hkn
          have BN2 := Lib.hid hC.1
          clear hkn hC hd
          dsimp only at hK ⊢
          generalize x 8 = kv at KN2 hK ⊢
          go_simp
          refine hK _ _ ?_
          clear hK
          refine hKK _ _ ?_
          clear hKK
          have VN2 : Hid (Mv.vs (ks ++ [⟨y, q5, c5, yv⟩]) = Mv.rem (Mv.vs (rs.take (k + 1))) (Mv.vs ro) beats) := Lib.hid (by rw [NX.out, ← hV.out]; unfold Mv.vs; simp [Mv.R.v])
          have LN2 : Hid ((ks ++ [(⟨y, q5, c5, yv⟩ : Mv.R)]).length ≤ k + 1) := Lib.hid (by have := hKL.out; simp; omega)
          go_wp2_with fail
          go_roundw
          case rel => exact ⟨k + 1, _, HLT.out, by go_num, LN2, KN2, VN2, BN2⟩
          case measure => simp [intOf]; omega
    · have g1 : decide ((k : Int) < (rs.length : Int)) = false := decide_eq_false (by omega)
      have g1' : decide (k < rs.length) = false := decide_eq_false hlt
      obtain rfl : k = rs.length := by omega
      rw [List.take_length] at hV
      go_wp2_with fail
      go_ret
      exact ⟨_, ks, rfl, by rw [← Z0.out]; exact hK.out, hV.out, (U0.out.trans (hB.out.mono U0.out.size))⟩
end Go.Proofs.Ytidncnhhjfdifaa
