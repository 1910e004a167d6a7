
/-
  The law SequenceOrderFree, walked.
-/
import Derived.Test.YtahfjkidhomnpaaSqS
namespace Go.Proofs.Ytahfjkidhomnpaa
open Go.RowKit
set_option maxRecDepth 4000
theorem sts_far {w : World} {q : Option Addr} {L : List ByteArray} {g : Nat} {t : TypeId} (h : Sts w q L) (hc : w.heap[g]? = some (.cells #[.int .i64 0, .int .i64 0] t (0, 0))) (x y : Value) : Sts ((w.setCell ⟨g, 0, none⟩ x).setCell ⟨g, 1, none⟩ y) q L := by
  refine ⟨h.small, h.len, h.nil', fun hn => ?_⟩
  obtain ⟨b, off, e, hb, hcell⟩ := h.at' hn
  refine ⟨b, off, e, by rw [World.size_setCell, World.size_setCell]; exact hb, fun i hi => ?_⟩
  have h0 := hcell i hi
  have k0 : w.cell? ⟨g, 0, none⟩ = some (.int .i64 0) := by simp [World.cell?, hc]
  have k1 : w.cell? ⟨g, 1, none⟩ = some (.int .i64 0) := by simp [World.cell?, hc]
  rw [World.cell?_setCell_other (h := fun e => by rw [← e] at h0; rw [k1] at h0; cases h0), World.cell?_setCell_other (h := fun e => by rw [← e] at h0; rw [k0] at h0; cases h0), h0]
theorem step_run {o : Oper} {a : Act} {w : World} {K : Act → World → Prop} {Q : Exit → Act → World → Prop} (s x : Operand) (hop : o.op = .call { callee := .builtin .append, args := #[s, x], argTypes := #[22, 22] }) {v xv v' : Value} {w' : World}
    (hs : a.eval s = v) (hx : a.eval x = xv) (hrun : (Builtin.append_ #[22, 22] o.type #[v, xv]).run Try.prog w = .ok v' w') (hK : K (a.put o.dst v') w') : Oper.wp Try.prog o a w K Q := by
  unfold Oper.wp
  simp [execOp, hop, resolve, invoke, builtin, hs, hx, hrun, Result.andThen]
  exact hK
theorem cut_perm (l : List Sq.O) (n : Nat) : (l.drop n ++ l.take n).Perm l := by
  have := List.perm_append_comm (l₁ := l.drop n) (l₂ := l.take n)
  rwa [List.take_append_drop] at this
/-- the slots of the region that turns the set about -/
def omS (W : World) (p : Option Addr) (l : List Sq.O) (cap n : Nat) (b : Bool) : Nat → Value → World → Prop
  | 0, v, _ => ∃ g, v = .slice (some ⟨g, 0, none⟩) 0 0
  | 1, v, _ => v = .slice p l.length cap
  | 2, v, _ => v = .int .i64 n
  | 3, v, _ => v = .slice (oAt p n cap) (l.length - n) (cap - n)
  | 4, v, w => b = true ∨ Ap W.heap.size w v (l.drop n)
  | 5, v, _ => v = .slice p l.length cap
  | 6, v, _ => v = .int .i64 n
  | 7, v, _ => v = .slice p n cap
  | 8, v, w => b = true ∧ ∃ q c, v = .slice q l.length c ∧ Row opE w q (l.drop n ++ l.take n)
  | 9, v, w => b = true ∧ ∃ q c, v = .tuple #[.slice q (Sq.vL l).length c, (.agg #[.int .i64 (Sq.vC (l.drop n ++ l.take n)), .int .i64 (Sq.vI (l.drop n ++ l.take n))])] ∧ Sts w q (Sq.vL l)
  | 10, v, w => b = true ∧ ∃ q c, v = .tuple #[.slice q (Sq.vL l).length c, (.agg #[.int .i64 (Sq.vC (l.drop n ++ l.take n)), .int .i64 (Sq.vI (l.drop n ++ l.take n))])] ∧ Sts w q (Sq.vL l)
  | 11, v, w => b = true ∧ ∃ q c, v = .slice q (Sq.vL l).length c ∧ Sts w q (Sq.vL l)
  | 12, v, _ => v = (.agg #[.int .i64 (Sq.vC (l.drop n ++ l.take n)), .int .i64 (Sq.vI (l.drop n ++ l.take n))])
  | 13, v, w => ∃ g, v = .pointer (some ⟨g, 0, none⟩) ∧ W.heap.size ≤ g ∧ w.heap[g]? = some (.cells #[.int .i64 0, .int .i64 0] 25 (0, 0))
  | 14, v, w => b = true ∧ ∃ q c, v = .slice q (Sq.vL l).length c ∧ Sts w q (Sq.vL l)
  | _, _, _ => True
theorem omS_up {W : World} {p : Option Addr} {l : List Sq.O} {cap n : Nat} {b q : Bool} {w w' : World} (hb : Below w.heap.size w w') (hq : q = false) : ∀ {j : Nat} {v : Value}, omS W p l cap n b j v w → omS W p l cap n (b || q) j v w' := by
  subst hq
  rw [Bool.or_false]
  intro j v h
  match j, h with
  | 0, h | 1, h | 2, h | 3, h | 5, h | 6, h | 7, h | 12, h => exact h
  | 4, h => exact h.imp id fun h => h.up hb
  | 8, ⟨h0, q, c, h1, h2⟩ => exact ⟨h0, q, c, h1, h2.mono hb⟩
  | 9, ⟨h0, q, c, h1, h2⟩ | 10, ⟨h0, q, c, h1, h2⟩ | 11, ⟨h0, q, c, h1, h2⟩ | 14, ⟨h0, q, c, h1, h2⟩ => exact ⟨h0, q, c, h1, h2.mono hb⟩
  | 13, ⟨g, h1, h2, h3⟩ => exact ⟨g, h1, h2, (hb.block _ (Array.getElem?_eq_some_iff.1 h3).1).trans h3⟩
  | _ + 15, _ => trivial
theorem omS_app {W : World} {p : Option Addr} {l : List Sq.O} {cap n : Nat} {w w' : World} (hg : w.grownBy w' none ∨ ∃ g cur, W.heap.size ≤ g ∧ w.heap[g]? = some (.cells cur 39 (0, 0)) ∧ w.grownBy w' (some g)) :
    ∀ {j : Nat} {v : Value}, j ≠ 8 → omS W p l cap n false j v w → omS W p l cap n true j v w' := by
  intro j v hj h
  match j, hj, h with
  | 0, _, h | 1, _, h | 2, _, h | 3, _, h | 5, _, h | 6, _, h | 7, _, h | 12, _, h => exact h
  | 4, _, _ => exact .inl rfl
  | 8, hj, _ => exact (hj rfl).elim
  | 9, _, h | 10, _, h | 11, _, h | 14, _, h => exact absurd h.1 (by decide)
  | 13, _, ⟨g, h1, h2, h3⟩ =>
    refine ⟨g, h1, h2, ?_⟩
    rcases hg with hg | ⟨g', cur, _, hc, hg⟩
    · exact (hg.block _ (Array.getElem?_eq_some_iff.1 h3).1 (by simp)).trans h3
    · refine (hg.block _ (Array.getElem?_eq_some_iff.1 h3).1 (fun e => ?_)).trans h3
      cases e
      rw [h3] at hc
      simp at hc
  | _ + 15, _, _ => trivial
set_option maxRecDepth 100000 in
set_option maxHeartbeats 4000000 in
theorem orderfree_walk (p : Option Addr) (l : List Sq.O) (cap : Nat) (k : Int) (w : World) (hp : Row opE w p l) (hc : p = none → cap = 0) (hl : l.length ≤ 2513169434845) (hlc : l.length ≤ cap) (hs : ∀ o ∈ l, o.line.size ≤ 140737488351232) (_ : (Lit.int .i64 k).wf = true) :
    Calls Try.prog 4 #[.slice p l.length cap, .int .i64 k] w (TPost w) := by
  have HP := Lib.hid hp
  have HC := Lib.hid hc
  have HS := Lib.hid hs
  have HLC := Lib.hid hlc
  have HA := Lib.hid (Sq.vC_perm (List.reverse_perm l))
  have HL := Lib.hid (Sq.vL_perm (List.reverse_perm l))
  clear hp hc hs hlc
  go_enter Try.func4, Try.ntmps4
  go_wp2_with fail
  refine (vis_any p l cap w HP.out hl HS.out).mono ?_
  rintro e w1 ⟨p1, c1', rfl, hst1, hb1⟩
  have ST1 := Lib.hid (hst1.mono (up_alloc (Below.refl _ _) (.cells #[.int .i64 (Sq.vC l), .int .i64 (Sq.vI l)] 25 (0, 0))))
  have B1 := Lib.hid (up_alloc hb1 (.cells #[.int .i64 (Sq.vC l), .int .i64 (Sq.vI l)] 25 (0, 0)))
  clear hst1 hb1
  have F1 := Lib.hid (Flt.new w1 (Sq.vC l) (Sq.vI l) 25)
  have z1 : (w1.alloc (.cells #[.int .i64 (Sq.vC l), .int .i64 (Sq.vI l)] 25 (0, 0))).heap.size = w1.heap.size + 1 := by simp
  have Z1 := Lib.hid z1
  clear z1
  go_wp2_with fail
  generalize w1.alloc (.cells #[.int .i64 (Sq.vC l), .int .i64 (Sq.vI l)] 25 (0, 0)) = W1 at ST1 B1 F1 Z1 ⊢
  refine (turned_any p l cap _ (HP.out.mono B1.out) hl).mono ?_
  rintro e w2 ⟨v2, rfl, ho2, hb2⟩
  obtain ⟨q2, c2, rfl, hr2⟩ := Ap.row (.inr ho2)
  have R2 := Lib.hid hr2
  have B2 := Lib.hid hb2
  clear hr2 hb2 ho2
  rw [List.length_reverse]
  go_wp2_with fail
  refine (show Calls Try.prog 9 #[.slice q2 l.length c2] w2 (VPost l.reverse w2) by
    have := vis_any q2 l.reverse c2 w2 R2.out (by simpa using hl) (fun o ho => HS.out o (List.mem_reverse.1 ho))
    rwa [List.length_reverse] at this).mono ?_
  rintro e w3 ⟨p3, c3, rfl, hst3, hb3⟩
  rw [HL.out] at hst3 ⊢
  have u3 := up_call B2.out hb3
  have ST1b := Lib.hid ((ST1.out.mono u3).mono (up_alloc (Below.refl _ _) (.cells #[.int .i64 (Sq.vC l.reverse), .int .i64 (Sq.vI l.reverse)] 25 (0, 0))))
  have ST3 := Lib.hid (hst3.mono (up_alloc (Below.refl _ _) (.cells #[.int .i64 (Sq.vC l.reverse), .int .i64 (Sq.vI l.reverse)] 25 (0, 0))))
  have F1b := Lib.hid ((F1.out.up u3).alloc (.cells #[.int .i64 (Sq.vC l.reverse), .int .i64 (Sq.vI l.reverse)] 25 (0, 0)))
  have F3 := Lib.hid (Flt.new w3 (Sq.vC l.reverse) (Sq.vI l.reverse) 25)
  have B3 := Lib.hid (up_alloc (up_call B1.out u3) (.cells #[.int .i64 (Sq.vC l.reverse), .int .i64 (Sq.vI l.reverse)] 25 (0, 0)))
  clear hst3 hb3 u3 ST1 F1 R2 B2
  obtain ⟨a0, a1, -, -, a4⟩ := F1b.out
  obtain ⟨b0, b1, -, -, b4⟩ := F3.out
  by_cases hv : Sq.vC l = 0
  · have k1 : (Sq.vC l != 0) = false := by rw [hv]; rfl
    have HV := Lib.hid hv
    have qq1 : (Sq.vC l == 0) = true := by rw [hv]; rfl
    have qq2 : (Sq.vC l.reverse == 0) = true := by simpa using HA.out ▸ hv
    clear hv
    by_cases hk0 : k < 0
    · have d0 : decide (k < 0) = true := decide_eq_true hk0
      go_wp2_with fail
      refine (latest_any _).mono ?_
      rintro e w4 ⟨rfl, hb4⟩
      have B4 := Lib.hid (up_call B3.out hb4)
      clear hb4
      go_wp2_with fail
      go_returns
      exact ⟨rfl, B4.out⟩
    · have d0 : decide (k < 0) = false := decide_eq_false hk0
      by_cases hk1 : (l.length : Int) < k
      · have d1 : decide ((l.length : Int) < k) = true := decide_eq_true hk1
        go_wp2_with fail
        refine (latest_any _).mono ?_
        rintro e w4 ⟨rfl, hb4⟩
        have B4 := Lib.hid (up_call B3.out hb4)
        clear hb4
        go_wp2_with fail
        go_returns
        exact ⟨rfl, B4.out⟩
      · have d1 : decide ((l.length : Int) < k) = false := decide_eq_false hk1
        obtain ⟨n, rfl⟩ := Int.eq_ofNat_of_zero_le (Int.not_lt.1 hk0)
        have hn : n ≤ l.length := by omega
        have d2 : decide (l.length < n) = false := decide_eq_false (by omega)
        have hnc : n ≤ cap := Nat.le_trans hn HLC.out
        have HLX := Lib.hid (Sq.vL_perm (cut_perm l n))
        have HP3 := Lib.hid (HP.out.mono B3.out)
        go_wp2_with fail
        clear hk0 hk1 d0 d1 d2 a0 a1 a4 b0 b1 b4
        generalize w3.alloc (.cells #[.int .i64 (Sq.vC l.reverse), .int .i64 (Sq.vI l.reverse)] 25 (0, 0)) = W3 at ST1b ST3 F1b F3 B3 HP3 ⊢
        rename_i hKK
        refine region_factsM (by kernel_rfl) (by kernel_rfl) (fun y => { tmps := #[.slice p l.length cap, .int .i64 n, undef, undef, .bool false, .slice p1 (Sq.vL l).length c1', .pointer (some ⟨w1.heap.size, 0, none⟩), .slice p3 (Sq.vL l).length c3, .pointer (some ⟨w3.heap.size, 0, none⟩), y 14, y 13, .tuple #[.slice p1 (Sq.vL l).length c1', .agg #[.int .i64 (Sq.vC l), .int .i64 (Sq.vI l)]], .slice p l.length cap, .tuple #[.slice p1 (Sq.vL l).length c1', .agg #[.int .i64 (Sq.vC l), .int .i64 (Sq.vI l)]], .slice p1 (Sq.vL l).length c1', .agg #[.int .i64 (Sq.vC l), .int .i64 (Sq.vI l)], .tuple #[.slice p3 (Sq.vL l).length c3, .agg #[.int .i64 (Sq.vC l.reverse), .int .i64 (Sq.vI l.reverse)]], .slice p l.length cap, .slice q2 l.length c2, .tuple #[.slice p3 (Sq.vL l).length c3, .agg #[.int .i64 (Sq.vC l.reverse), .int .i64 (Sq.vI l.reverse)]], .slice p3 (Sq.vL l).length c3, .agg #[.int .i64 (Sq.vC l.reverse), .int .i64 (Sq.vI l.reverse)], .pointer (some ⟨w1.heap.size, 0, none⟩), .int .i64 (Sq.vC l), .bool false, .bool false, .int .i64 n, .bool false, .bool false, .bool false, .int .i64 n, .slice p l.length cap, .int .i64 (l.length : Int), .bool false, .bool false, undef, undef, undef, undef, undef, undef, undef, undef, undef, undef, y 10, y 0, y 1, y 2, y 3, y 4, y 5, y 6, y 7, y 8, y 9, y 11, y 12, undef, undef, undef, undef, undef, undef, undef, undef, undef, undef, undef, undef, undef, undef, undef, undef, undef, undef, undef, undef, undef], defers := [] }) (fun _ => undef) rfl (fun w' => Below W3.heap.size W3 w') 8 (omS W3 p l cap n) (by simp) (Below.refl _ _).drew ?_ (by simp)
        refine steps_consM ?_ (steps_consM ?_ (steps_consM ?_ (steps_consM ?_ (steps_consM ?_ (steps_consM ?_ (steps_consM ?_ (steps_consM ?_ (steps_consM ?_ (steps_consM ?_ (steps_consM ?_ (steps_consM ?_ (steps_consM ?_ (steps_consM ?_ (steps_consM ?_ (steps_lastM ?_)))))))))))))))
        · refine step_mkM [] rfl rfl (fun _ _ => rfl) ?_
          intro x w5 b hb hC hd K hK
          dsimp only at hK ⊢
          go_simp
          exact hK _ _ (up_alloc hC _) ⟨_, rfl⟩ (fun j u _ h => omS_up (up_alloc (Below.refl _ _) _) rfl h)
        · refine step_mkM [] rfl rfl (fun _ _ => rfl) ?_
          intro x w5 b hb hC hd K hK
          dsimp only at hK ⊢
          go_simp
          exact hK _ _ hC rfl (fun j u _ h => omS_up (Below.refl _ _) rfl h)
        · refine step_mkM [] rfl rfl (fun _ _ => rfl) ?_
          intro x w5 b hb hC hd K hK
          dsimp only at hK ⊢
          go_simp
          exact hK _ _ hC rfl (fun j u _ h => omS_up (Below.refl _ _) rfl h)
        · refine step_mkM [1, 2] rfl rfl (fun _ _ => rfl) ?_
          intro x w5 b hb hC hd K hK
          have e1 : x 1 = _ := hd 1 (by simp)
          have e2 : x 2 = _ := hd 2 (by simp)
          have hr := oRun_from p l.length cap n hn w5
          dsimp only at hK ⊢
          simp only [e1, e2] at hK ⊢
          go_simp
          exact hK _ _ hC rfl (fun j u _ h => omS_up (Below.refl _ _) rfl h)
        · refine step_mkM [0, 3] rfl rfl (fun _ _ => rfl) ?_
          intro x w5 b hb hC hd K hK
          obtain ⟨g, e0⟩ := hd 0 (by simp)
          have e3 : x 3 = _ := hd 3 (by simp)
          have hrow := ((HP3.out.mono hC).from6 n cap hn HLC.out)
          obtain ⟨v', w', hrun, ha, hbl⟩ := app_zero (B := W3.heap.size) (b := g) (c := cap - n) 22 hrow hC.size (by rw [List.length_drop]; omega)
          rw [List.length_drop] at hrun
          dsimp only at hK ⊢
          simp only [e0, e3] at hK ⊢
          refine step_run (.tmp 46) (.tmp 49) rfl rfl rfl hrun ?_
          exact hK _ _ (up_call hC hbl) (.inr ha) (fun j u _ h => omS_up hbl rfl h)
        · refine step_mkM [] rfl rfl (fun _ _ => rfl) ?_
          intro x w5 b hb hC hd K hK
          dsimp only at hK ⊢
          go_simp
          exact hK _ _ hC rfl (fun j u _ h => omS_up (Below.refl _ _) rfl h)
        · refine step_mkM [] rfl rfl (fun _ _ => rfl) ?_
          intro x w5 b hb hC hd K hK
          dsimp only at hK ⊢
          go_simp
          exact hK _ _ hC rfl (fun j u _ h => omS_up (Below.refl _ _) rfl h)
        · refine step_mkM [5, 6] rfl rfl (fun _ _ => rfl) ?_
          intro x w5 b hb hC hd K hK
          have e5 : x 5 = _ := hd 5 (by simp)
          have e6 : x 6 = _ := hd 6 (by simp)
          have hr := oRun_upto p l.length cap n hnc w5
          dsimp only at hK ⊢
          simp only [e5, e6] at hK ⊢
          go_simp
          exact hK _ _ hC rfl (fun j u _ h => omS_up (Below.refl _ _) rfl h)
        · refine step_mkM [4, 7, 4] rfl rfl (fun _ _ => rfl) ?_
          intro x w5 b hb hC hd K hK
          have hbf := hb rfl
          subst hbf
          have e4 : Ap W3.heap.size w5 (x 4) (l.drop n) := (hd 4 (by simp)).resolve_left (by decide)
          have e7 : x 7 = _ := hd 7 (by simp)
          have hrow := (HP3.out.mono hC).upto6 n
          obtain ⟨v', w', hrun, ha, hgr⟩ := app_more (c := cap) 22 e4 hrow HC.out hC.size (by simp; omega)
          rw [show (l.take n).length = n by simp; omega] at hrun
          have hbl : Below W3.heap.size W3 w' := by
            rcases hgr with hgr | ⟨g', cur, hg', _, hgr⟩
            · exact hC.grown hgr hC.size (fun k e => by cases e)
            · exact hC.grown hgr hC.size (fun k e => by cases e; exact hg')
          dsimp only at hK ⊢
          simp only [e7] at hK ⊢
          refine step_run (.tmp 50) (.tmp 53) rfl rfl rfl hrun ?_
          obtain ⟨q, c, rfl, hr⟩ := ha.row
          rw [(cut_perm l n).length_eq]
          exact hK _ _ hbl ⟨rfl, q, c, rfl, hr⟩ (fun j u hj h => omS_app hgr hj h)
        · refine step_mkM [8, 8] rfl rfl (fun _ _ => rfl) ?_
          intro x w5 b hb hC hd K hK
          obtain ⟨e8b, q, c, e8, hr⟩ := hd 8 (by simp)
          subst e8b
          have HV9 := Lib.hid (show Calls Try.prog 9 #[.slice q l.length c] w5 (VPost (l.drop n ++ l.take n) w5) by
            have := vis_any q _ c w5 hr (by rw [(cut_perm l n).length_eq]; exact hl) (fun o ho => HS.out o ((cut_perm l n).subset ho))
            rwa [(cut_perm l n).length_eq] at this)
          clear hr
          dsimp only at hK ⊢
          simp only [e8] at hK ⊢
          go_simp
          refine HV9.out.mono ?_
          rintro e w6 ⟨q', c', rfl, hst, hbl⟩
          rw [HLX.out] at hst ⊢
          exact hK _ _ (up_call hC hbl) ⟨rfl, q', c', rfl, hst⟩ (fun j u _ h => omS_up hbl rfl h)
        · refine step_mkM [9] rfl rfl (fun _ _ => rfl) ?_
          intro x w5 b hb hC hd K hK
          obtain ⟨eb, q, c, ex, hst⟩ := hd 9 (by simp)
          subst eb
          dsimp only at hK ⊢
          simp only [ex] at hK ⊢
          go_simp
          exact hK _ _ hC ⟨rfl, q, c, rfl, hst⟩ (fun j u _ h => omS_up (Below.refl _ _) rfl h)
        · refine step_mkM [10] rfl rfl (fun _ _ => rfl) ?_
          intro x w5 b hb hC hd K hK
          obtain ⟨eb, q, c, ex, hst⟩ := hd 10 (by simp)
          subst eb
          dsimp only at hK ⊢
          simp only [ex] at hK ⊢
          go_simp
          exact hK _ _ hC ⟨rfl, q, c, rfl, hst⟩ (fun j u _ h => omS_up (Below.refl _ _) rfl h)
        · refine step_mkM [10] rfl rfl (fun _ _ => rfl) ?_
          intro x w5 b hb hC hd K hK
          obtain ⟨eb, q, c, ex, hst⟩ := hd 10 (by simp)
          subst eb
          dsimp only at hK ⊢
          simp only [ex] at hK ⊢
          go_simp
          exact hK _ _ hC rfl (fun j u _ h => omS_up (Below.refl _ _) rfl h)
        · refine step_mkM [] rfl rfl (fun _ _ => rfl) ?_
          intro x w5 b hb hC hd K hK
          dsimp only at hK ⊢
          go_simp
          exact hK _ _ (up_alloc hC _) ⟨_, rfl, hC.size, heap_alloc_new _ _⟩ (fun j u _ h => omS_up (up_alloc (Below.refl _ _) _) rfl h)
        · refine step_mkM [11, 9, 0, 1, 2, 3, 4, 5, 6, 7, 8, 9, 10, 11, 13] rfl rfl (fun _ _ => rfl) ?_
          intro x w5 b hb hC hd K hK
          obtain ⟨eb, q, c, ex, hst⟩ := hd 11 (by simp)
          subst eb
          dsimp only at hK ⊢
          simp only [ex] at hK ⊢
          go_simp
          exact hK _ _ hC ⟨rfl, q, c, rfl, hst⟩ (fun j u _ h => omS_up (Below.refl _ _) rfl h)
        · refine tail_mkM rfl ?_
          intro x w5 hC hd K hK
          have e12 : x 12 = _ := hd 12 (by omega)
          obtain ⟨-, q, c, e14, hst⟩ := hd 14 (by omega)
          obtain ⟨g, e13, hg, hcell⟩ := hd 13 (by omega)
          have hlt := (Array.getElem?_eq_some_iff.1 hcell).1
          have c0 : w5.cell? ⟨g, 0, none⟩ = some (.int .i64 0) := by simp [World.cell?, hcell]
          have c1 : w5.cell? ⟨g, 1, none⟩ = some (.int .i64 0) := by simp [World.cell?, hcell]
          have f0 : w5.frozen? ⟨g, 0, none⟩ = false := by simp [World.frozen?, hcell]
          have f1 : w5.frozen? ⟨g, 1, none⟩ = false := by simp [World.frozen?, hcell]
          dsimp only at hK ⊢
          simp only [e12, e13, e14] at hK ⊢
          go_simp
          have F5 : Flt w5 g 0 0 := ⟨c0, c1, f0, f1, hlt⟩
          have F6 := Lib.hid (F5.set2 (Sq.vC (l.drop n ++ l.take n)) (Sq.vI (l.drop n ++ l.take n)))
          have hb6 : Below W3.heap.size w5 ((w5.setCell ⟨g, 0, none⟩ (.int .i64 (Sq.vC (l.drop n ++ l.take n)))).setCell ⟨g, 1, none⟩ (.int .i64 (Sq.vI (l.drop n ++ l.take n)))) := by
            refine Below.setCell (Below.setCell (Below.refl _ _) ?_ _) ?_ _ <;> exact hg
          have ST6 := Lib.hid (sts_far hst hcell (.int .i64 (Sq.vC (l.drop n ++ l.take n))) (.int .i64 (Sq.vI (l.drop n ++ l.take n))))
          have B6 := Lib.hid (hC.trans hb6)
          clear hb6 F5 f0 f1 c0 c1 hcell hst hlt hC
          generalize (w5.setCell ⟨g, 0, none⟩ (.int .i64 (Sq.vC (l.drop n ++ l.take n)))).setCell ⟨g, 1, none⟩ (.int .i64 (Sq.vI (l.drop n ++ l.take n))) = w6 at F6 ST6 B6 ⊢
          refine hK undef _ ?_
          clear hK
          refine hKK _ _ ?_
          clear hKK
          have c14 := (F3.out.mono B6.out F3.out.lt).c0
          obtain ⟨d0, d1, -, -, d4⟩ := F6.out
          have qq3 : (Sq.vC (l.drop n ++ l.take n) == 0) = true := by simpa using (Sq.vC_perm (cut_perm l n)) ▸ HV.out
          have hl60 := Sq.vL_len l
          go_wp2_with fail
          refine (equal_any p1 p3 (Sq.vL l) (Sq.vL l) _ _ c1' c3 _ rfl rfl (ST1b.out.mono B6.out) (ST3.out.mono B6.out)).mono ?_
          rintro e w7 ⟨rfl, n7, rfl⟩
          rw [eqS_true rfl]
          go_wp2_with fail
          refine (equal_any p1 q (Sq.vL l) (Sq.vL l) _ _ c1' c _ rfl rfl (sts_drew (ST1b.out.mono B6.out) n7) (sts_drew ST6.out n7)).mono ?_
          rintro e w8 ⟨rfl, n8, rfl⟩
          rw [eqS_true rfl]
          go_wp2_with fail
          refine (latest_any _).mono ?_
          rintro e w9 ⟨rfl, hb9⟩
          have h36 : w.heap.size ≤ w6.heap.size := Nat.le_trans B3.out.size B6.out.size
          have hb : Hid (Below w.heap.size w w9) := Lib.hid ((B3.out.trans (B6.out.mono B3.out.size)).trans ((below_drewN (Below.refl _ _) (n7 + n8)).trans (hb9.mono (by simpa using h36))))
          clear hb9
          go_wp2_with fail
          go_returns
          exact ⟨rfl, hb.out⟩
  · have k1 : (Sq.vC l != 0) = true := by simpa using hv
    have qq1 : (Sq.vC l == 0) = false := by simpa using hv
    have qq2 : (Sq.vC l.reverse == 0) = false := by simpa using (fun h => hv (HA.out ▸ h))
    clear hv
    go_wp2_with fail
    refine (latest_any _).mono ?_
    rintro e w4 ⟨rfl, hb4⟩
    have B4 := Lib.hid (up_call B3.out hb4)
    clear hb4
    go_wp2_with fail
    go_returns
    exact ⟨rfl, B4.out⟩
end Go.Proofs.Ytahfjkidhomnpaa
