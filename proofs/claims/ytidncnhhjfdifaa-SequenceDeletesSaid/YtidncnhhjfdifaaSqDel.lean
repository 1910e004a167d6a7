
/-
  The law SequenceDeletes, walked.
-/
import Derived.Test.YtidncnhhjfdifaaSqInsR
namespace Go.Proofs.Ytidncnhhjfdifaa
open Go.RowKit
set_option maxRecDepth 4000
namespace Sq
theorem cd_left {A : List O} {o : O} {j : Nat} (h : j < A.length) : cd (A ++ [o]) j = cd A j := by
  unfold cd
  rw [List.getElem?_append_left h, List.take_append_of_le_length (by omega)]
/-- an operation twice -/
theorem vC_twice {l : List O} {o : O} (h : vC (l ++ [o]) = 0) : vC (l ++ [o] ++ [o]) = if l.length + 1 = 60 then 2 else 7 := by
  have hz := vC_zero h
  have hV := val_of h
  have hl : (l ++ [o]).length = l.length + 1 := by simp
  have h60 := hV.len
  by_cases hk : l.length + 1 = 60
  · rw [if_pos hk]
    unfold vC
    rw [if_pos (by rw [List.length_append, hl]; simp; omega)]
  · rw [if_neg hk]
    have hk' : l.length + 1 < (l ++ [o] ++ [o]).length := by simp
    have eo : (l ++ [o] ++ [o])[l.length + 1]'hk' = o := by rw [List.getElem_append_right (by omega)]; simp
    have e7 : cd (l ++ [o] ++ [o]) (l.length + 1) = 7 := by
      refine cd_dup hk' (by rw [eo]; exact hV.ok o (by simp)) ?_
      rw [eo, List.take_append_of_le_length (by omega), List.take_of_length_le (by omega)]
      exact List.mem_map_of_mem (by simp)
    rw [(vC_at (by simp; omega) hk' (by rw [e7]; decide) (fun j hj => by rw [cd_left (by omega)]; exact hz.2.1 j (by omega))).1, e7]
end Sq
set_option maxRecDepth 100000 in
set_option maxHeartbeats 4000000 in
theorem deletes_walk (p : Option Addr) (l : List Sq.O) (cap : Nat) (o : Sq.O) (w : World) (hp : Row opE w p l) (hc : p = none → cap = 0) (hl : l.length ≤ 2513169434845) (_ : l.length ≤ cap) (hs : ∀ x ∈ l, x.line.size ≤ 140737488351232) (ho : o.line.size ≤ 140737488351232) :
    Calls Try.prog 12 #[.slice p l.length cap, o.v] w (TPost w) := by
  have up0 := boxO_up w o
  have OB0 := OpB.new w o
  unfold Sq.O.v
  unfold boxO at up0 OB0
  have HP := Lib.hid (hp.mono up0)
  have HC := Lib.hid hc
  have HS := Lib.hid hs
  have HLL := Lib.hid hl
  have HL2 := Lib.hid (show l.length + 1 ≤ 2513169434846 by omega)
  have HN := Lib.hid (show (l ++ [o]).length = l.length + 1 by simp)
  have HV := Lib.hid (show ∀ x ∈ l ++ [o], x.line.size ≤ 140737488351232 from fun x hx => by
    rcases List.mem_append.1 hx with hx | hx
    · exact hs x hx
    · rw [List.mem_singleton.1 hx]; exact ho)
  have HV2 := Lib.hid (show ∀ x ∈ l ++ [o] ++ [o], x.line.size ≤ 140737488351232 from fun x hx => by
    rcases List.mem_append.1 hx with hx | hx
    · exact HV.out x hx
    · rw [List.mem_singleton.1 hx]; exact ho)
  have OB := Lib.hid OB0
  generalize hA2 : l ++ [o] ++ [o] = A2 at HV2
  have HA2 := Lib.hid hA2
  clear hp hc hs ho OB0 hA2
  go_enter Try.func12, Try.ntmps12
  go_wp2_with fail
  generalize w.alloc (.cells #[.bool o.del, .int .i64 o.rep, .int .i64 o.cnt, .int .i64 o.arep, .int .i64 o.acnt, .string o.line] 53 (0, 0)) = W0 at up0 HP OB ⊢
  rename_i hKK
  refine region_factsC (by kernel_rfl) (by kernel_rfl) (fun y => { tmps := #[.slice p l.length cap, .agg #[.bool o.del, .int .i64 o.rep, .int .i64 o.cnt, .int .i64 o.arep, .int .i64 o.acnt, .string o.line], undef, .pointer (some ⟨w.heap.size, 0, none⟩), .bool false, undef, undef, undef, undef, undef, undef, undef, undef, y 0, y 1, y 2, y 3, y 4, y 5, undef, undef, undef, undef, undef, undef, undef, undef, undef, undef, undef, undef, undef, undef, undef, undef, undef, undef, undef, undef, undef, undef, undef, undef, undef, undef, undef, undef, undef, undef, undef, undef, undef, undef, undef, undef, undef, undef, undef, undef, undef, undef, undef, undef, undef, undef, undef, undef, undef, undef, undef, undef, undef, undef, undef, undef, undef, undef, undef, undef, undef, undef, undef, undef], defers := [] }) (fun _ => undef) rfl (fun _ w' => Below W0.heap.size W0 w') 5 (inS W0 p (l) (l ++ [o]) o (l.length) cap) (by simp) (Below.refl _ _).drew ?_ (by simp)
  refine steps_consC ?_ (steps_consC ?_ (steps_consC ?_ (steps_consC ?_ (steps_consC ?_ (steps_consC ?_ (steps_lastC ?_))))))
  · refine step_mkC [] rfl rfl (fun _ _ => rfl) ?_
    intro x w5 b hb hC hd K hK
    dsimp only at hK ⊢
    go_simp
    exact hK _ _ (up_alloc hC _) ⟨_, rfl⟩ (fun j u _ h => inS_up (up_alloc (Below.refl _ _) _) rfl h)
  · refine step_mkC [] rfl rfl (fun _ _ => rfl) ?_
    intro x w5 b hb hC hd K hK
    dsimp only at hK ⊢
    go_simp
    exact hK _ _ (hC) rfl (fun j u _ h => inS_up (Below.refl _ _) rfl h)
  · refine step_mkC [0, 1] rfl rfl (fun _ _ => rfl) ?_
    intro x w5 b hb hC hd K hK
    obtain ⟨g, e0⟩ := hd 0 (by simp)
    have e1 : x 1 = _ := hd 1 (by simp)
    obtain ⟨v', w', hrun, ha, hbl⟩ := app_zero (B := W0.heap.size) (b := g) (c := cap) 41 (HP.out.mono hC) hC.size (by have := HLL.out; omega)
    skip
    dsimp only at hK ⊢
    simp only [e0, e1] at hK ⊢
    refine step_run (.tmp 13) (.tmp 14) rfl rfl rfl hrun ?_
    exact hK _ _ (up_call hC hbl) (.inr ha) (fun j u _ h => inS_up hbl rfl h)
  · refine step_mkC [] rfl rfl (fun _ _ => rfl) ?_
    intro x w5 b hb hC hd K hK
    obtain ⟨c0, c1, c2, c3, c4, c5, _⟩ := OB.out.up hC
    dsimp only at hK ⊢
    go_simp
    exact hK _ _ (hC) rfl (fun j u _ h => inS_up (Below.refl _ _) rfl h)
  · refine step_mkC [3] rfl rfl (fun _ _ => rfl) ?_
    intro x w5 b hb hC hd K hK
    have e3 : x 3 = _ := hd 3 (by simp)
    dsimp only at hK ⊢
    simp only [e3] at hK ⊢
    go_simp
    exact hK _ _ (up_alloc hC _) (.inr ⟨_, rfl, row_litO w5 o⟩) (fun j u _ h => inS_up (up_alloc (Below.refl _ _) _) rfl h)
  · refine step_mkC [2, 4, 2] rfl rfl (fun _ _ => rfl) ?_
    intro x w5 b hb hC hd K hK
    have hbf := hb rfl
    subst hbf
    have e2 : Ap W0.heap.size w5 (x 2) (l) := (hd 2 (by simp)).resolve_left (by decide)
    obtain ⟨a4, e4, hrow⟩ := (hd 4 (by simp)).resolve_left (by decide)
    obtain ⟨v', w', hrun, ha, hgr⟩ := app_more (c := 1) 41 e2 hrow (fun e => by cases e) hC.size (by have := HLL.out; simp; omega)
    simp only [List.length_cons, List.length_nil, Nat.zero_add] at hrun
    have hbl : Below W0.heap.size W0 w' := by
      rcases hgr with hgr | ⟨g', cur, hg', _, hgr⟩
      · exact hC.grown hgr hC.size (fun k e => by cases e)
      · exact hC.grown hgr hC.size (fun k e => by cases e; exact hg')
    dsimp only at hK ⊢
    simp only [e4] at hK ⊢
    refine step_run (.tmp 15) (.tmp 17) rfl rfl rfl hrun ?_
    obtain ⟨q, c, rfl, hr, hqc⟩ := ha.rowC (by simp)
    skip
    rw [List.length_append, show [o].length = 1 from rfl]
    exact hK _ _ hbl ⟨rfl, q, c, rfl, hr, hqc⟩ (fun j u hj h => inS_app hgr hj h)
  · refine tail_mkC rfl ?_
    intro x w5 hC hd K hK
    obtain ⟨-, q, c, e5, hr, hqc⟩ := hd 5 (by omega)
    have R1 := Lib.hid hr
    have QC1 := Lib.hid hqc
    have B1 := Lib.hid hC
    clear hr hqc hC hd
    dsimp only at hK ⊢
    simp only [e5] at hK ⊢
    clear e5
    go_simp
    refine hK _ _ ?_
    clear hK
    refine hKK _ _ ?_
    clear hKK
    obtain ⟨W1, hW1⟩ : ∃ W, W = w5 := ⟨_, rfl⟩
    rw [← hW1] at R1 B1 ⊢
    clear hW1
    have B1w := Lib.hid (up0.trans (B1.out.mono up0.size))
    have HP1 := Lib.hid (HP.out.mono B1.out)
    have OB1 := Lib.hid (OB.out.up B1.out)
    have V1 := Lib.hid (vis_any p l cap W1 HP1.out hl HS.out)
    go_wp2_with fail
    refine V1.out.mono ?_
    rintro e w1 ⟨p1, c1', rfl, hst1, hb1⟩
    have u1 := up_alloc (Below.refl w1.heap.size w1) (.cells #[.int .i64 (Sq.vC l), .int .i64 (Sq.vI l)] 24 (0, 0))
    have uu := up_call hb1 u1
    have ST1 := Lib.hid (hst1.mono u1)
    have B2 := Lib.hid (up_call B1w.out uu)
    have F1 := Lib.hid (Flt.new w1 (Sq.vC l) (Sq.vI l) 24)
    have R2 := Lib.hid (R1.out.mono uu)
    have OB2 := Lib.hid (OB1.out.up uu)
    clear hst1 hb1 u1 uu V1 HP1 OB1
    go_wp2_with fail
    generalize w1.alloc (.cells #[.int .i64 (Sq.vC l), .int .i64 (Sq.vI l)] 24 (0, 0)) = W2 at ST1 B2 F1 R2 OB2 ⊢
    have V2 := Lib.hid (show Calls Try.prog 23 #[.slice q (l.length + 1) c] W2 (VPost (l ++ [o]) W2) by
      have := vis_more q (l ++ [o]) c W2 R2.out (by rw [HN.out]; omega) HV.out
      rwa [HN.out] at this)
    refine V2.out.mono ?_
    rintro e w2 ⟨p2, c2', rfl, hst2, hb2⟩
    have u1 := up_alloc (Below.refl w2.heap.size w2) (.cells #[.int .i64 (Sq.vC (l ++ [o])), .int .i64 (Sq.vI (l ++ [o]))] 24 (0, 0))
    have uu := up_call hb2 u1
    have ST2 := Lib.hid (hst2.mono u1)
    have ST1b := Lib.hid (ST1.out.mono uu)
    have B3 := Lib.hid (up_call B2.out uu)
    have F1b := Lib.hid (F1.out.up uu)
    have F2 := Lib.hid (Flt.new w2 (Sq.vC (l ++ [o])) (Sq.vI (l ++ [o])) 24)
    have R3 := Lib.hid (R2.out.mono uu)
    have OB3 := Lib.hid (OB2.out.up uu)
    clear hst2 hb2 u1 uu V2 R2 OB2 ST1 F1
    go_wp2_with fail
    generalize w2.alloc (.cells #[.int .i64 (Sq.vC (l ++ [o])), .int .i64 (Sq.vI (l ++ [o]))] 24 (0, 0)) = W3 at ST1b ST2 B3 F1b F2 R3 OB3 ⊢
    rename_i hKK
    refine region_factsC (by kernel_rfl) (by kernel_rfl) (fun y => { tmps := #[.slice p l.length cap, .agg #[.bool o.del, .int .i64 o.rep, .int .i64 o.cnt, .int .i64 o.arep, .int .i64 o.acnt, .string o.line], undef, .pointer (some ⟨w.heap.size, 0, none⟩), .bool false, .slice q (l.length + 1) c, .slice p1 (Sq.vL l).length c1', .pointer (some ⟨w1.heap.size, 0, none⟩), .slice p2 (Sq.vL (l ++ [o])).length c2', .pointer (some ⟨w2.heap.size, 0, none⟩), y 11, y 10, undef, x 0, x 1, x 2, x 3, x 4, .slice q (l.length + 1) c, .tuple #[.slice p1 (Sq.vL l).length c1', .agg #[.int .i64 (Sq.vC l), .int .i64 (Sq.vI l)]], .slice p l.length cap, .tuple #[.slice p1 (Sq.vL l).length c1', .agg #[.int .i64 (Sq.vC l), .int .i64 (Sq.vI l)]], .slice p1 (Sq.vL l).length c1', .agg #[.int .i64 (Sq.vC l), .int .i64 (Sq.vI l)], .tuple #[.slice p2 (Sq.vL (l ++ [o])).length c2', .agg #[.int .i64 (Sq.vC (l ++ [o])), .int .i64 (Sq.vI (l ++ [o]))]], .slice q (l.length + 1) c, .tuple #[.slice p2 (Sq.vL (l ++ [o])).length c2', .agg #[.int .i64 (Sq.vC (l ++ [o])), .int .i64 (Sq.vI (l ++ [o]))]], .slice p2 (Sq.vL (l ++ [o])).length c2', .agg #[.int .i64 (Sq.vC (l ++ [o])), .int .i64 (Sq.vI (l ++ [o]))], y 7, y 0, y 1, y 2, y 3, y 4, y 5, y 6, y 8, y 9, undef, undef, undef, undef, undef, undef, undef, undef, undef, undef, undef, undef, undef, undef, undef, undef, undef, undef, undef, undef, undef, undef, undef, undef, undef, undef, undef, undef, undef, undef, undef, undef, undef, undef, undef, undef, undef, undef, undef, undef, undef, undef, undef, undef], defers := [] }) (fun _ => undef) rfl (fun _ w' => Below W3.heap.size W3 w') 5 (inS W3 q (l ++ [o]) (A2) o (l.length + 1) c) (by simp) (Below.refl _ _).drew ?_ (by simp)
    refine steps_consC ?_ (steps_consC ?_ (steps_consC ?_ (steps_consC ?_ (steps_consC ?_ (steps_consC ?_ (steps_consC ?_ (steps_consC ?_ (steps_consC ?_ (steps_consC ?_ (steps_consC ?_ (steps_consC ?_ (steps_lastC ?_))))))))))))
    · refine step_mkC [] rfl rfl (fun _ _ => rfl) ?_
      intro x w5 b hb hC hd K hK
      dsimp only at hK ⊢
      go_simp
      exact hK _ _ (up_alloc hC _) ⟨_, rfl⟩ (fun j u _ h => inS_up (up_alloc (Below.refl _ _) _) rfl h)
    · refine step_mkC [] rfl rfl (fun _ _ => rfl) ?_
      intro x w5 b hb hC hd K hK
      dsimp only at hK ⊢
      go_simp
      exact hK _ _ (hC) rfl (fun j u _ h => inS_up (Below.refl _ _) rfl h)
    · refine step_mkC [0, 1] rfl rfl (fun _ _ => rfl) ?_
      intro x w5 b hb hC hd K hK
      obtain ⟨g, e0⟩ := hd 0 (by simp)
      have e1 : x 1 = _ := hd 1 (by simp)
      obtain ⟨v', w', hrun, ha, hbl⟩ := app_zero (B := W3.heap.size) (b := g) (c := c) 41 (R3.out.mono hC) hC.size (by rw [HN.out]; have := HL2.out; omega)
      rw [HN.out] at hrun
      dsimp only at hK ⊢
      simp only [e0, e1] at hK ⊢
      refine step_run (.tmp 30) (.tmp 31) rfl rfl rfl hrun ?_
      exact hK _ _ (up_call hC hbl) (.inr ha) (fun j u _ h => inS_up hbl rfl h)
    · refine step_mkC [] rfl rfl (fun _ _ => rfl) ?_
      intro x w5 b hb hC hd K hK
      obtain ⟨c0, c1, c2, c3, c4, c5, _⟩ := OB3.out.up hC
      dsimp only at hK ⊢
      go_simp
      exact hK _ _ (hC) rfl (fun j u _ h => inS_up (Below.refl _ _) rfl h)
    · refine step_mkC [3] rfl rfl (fun _ _ => rfl) ?_
      intro x w5 b hb hC hd K hK
      have e3 : x 3 = _ := hd 3 (by simp)
      dsimp only at hK ⊢
      simp only [e3] at hK ⊢
      go_simp
      exact hK _ _ (up_alloc hC _) (.inr ⟨_, rfl, row_litO w5 o⟩) (fun j u _ h => inS_up (up_alloc (Below.refl _ _) _) rfl h)
    · refine step_mkC [2, 4, 2] rfl rfl (fun _ _ => rfl) ?_
      intro x w5 b hb hC hd K hK
      have hbf := hb rfl
      subst hbf
      have e2 : Ap W3.heap.size w5 (x 2) (l ++ [o]) := (hd 2 (by simp)).resolve_left (by decide)
      obtain ⟨a4, e4, hrow⟩ := (hd 4 (by simp)).resolve_left (by decide)
      obtain ⟨v', w', hrun, ha, hgr⟩ := app_more (c := 1) 41 e2 hrow (fun e => by cases e) hC.size (by rw [HN.out]; have := HL2.out; simp; omega)
      simp only [List.length_cons, List.length_nil, Nat.zero_add] at hrun
      have hbl : Below W3.heap.size W3 w' := by
        rcases hgr with hgr | ⟨g', cur, hg', _, hgr⟩
        · exact hC.grown hgr hC.size (fun k e => by cases e)
        · exact hC.grown hgr hC.size (fun k e => by cases e; exact hg')
      dsimp only at hK ⊢
      simp only [e4] at hK ⊢
      refine step_run (.tmp 32) (.tmp 34) rfl rfl rfl hrun ?_
      obtain ⟨q, c, rfl, hr, hqc⟩ := ha.rowC (by simp)
      rw [HA2.out] at hr
      rw [List.length_append, HN.out, show [o].length = 1 from rfl]
      exact hK _ _ hbl ⟨rfl, q, c, rfl, hr, hqc⟩ (fun j u hj h => inS_app hgr hj h)
    · refine step_mkC [5, 5] rfl rfl (fun _ _ => rfl) ?_
      intro x w5 b hb hC hd K hK
      obtain ⟨e5b, q, c, e5, hr, -⟩ := hd 5 (by simp)
      subst e5b
      have HV9 := Lib.hid (show Calls Try.prog 23 #[.slice q (l.length + 1 + 1) c] w5 (VPost (A2) w5) by
        have hl2 : (A2).length = l.length + 1 + 1 := by rw [← HA2.out]; simp
        have := vis_more q (A2) c w5 hr (by rw [hl2]; have := HL2.out; omega) HV2.out
        rwa [hl2] at this)
      skip
      --  have := vis_more q (A2) c w5 hr (by rw [List.length_append, HN.out]; have := HL2.out; simp; omega) HV2.out
      --  rwa [List.length_append, HN.out, show [o].length = 1 from rfl] at this)
      clear hr
      dsimp only at hK ⊢
      simp only [e5] at hK ⊢
      go_simp
      refine HV9.out.mono ?_
      rintro e w6 ⟨q', c', rfl, hst, hbl⟩
      exact hK _ _ (up_call hC hbl) ⟨rfl, q', c', rfl, hst⟩ (fun j u _ h => inS_up hbl rfl h)
    · refine step_mkC [6] rfl rfl (fun _ _ => rfl) ?_
      intro x w5 b hb hC hd K hK
      obtain ⟨eb, q, c, ex, hst⟩ := hd 6 (by simp)
      subst eb
      dsimp only at hK ⊢
      simp only [ex] at hK ⊢
      go_simp
      exact hK _ _ hC ⟨rfl, q, c, rfl, hst⟩ (fun j u _ h => inS_up (Below.refl _ _) rfl h)
    · refine step_mkC [7] rfl rfl (fun _ _ => rfl) ?_
      intro x w5 b hb hC hd K hK
      obtain ⟨eb, q, c, ex, hst⟩ := hd 7 (by simp)
      subst eb
      dsimp only at hK ⊢
      simp only [ex] at hK ⊢
      go_simp
      exact hK _ _ hC ⟨rfl, q, c, rfl, hst⟩ (fun j u _ h => inS_up (Below.refl _ _) rfl h)
    · refine step_mkC [7] rfl rfl (fun _ _ => rfl) ?_
      intro x w5 b hb hC hd K hK
      obtain ⟨eb, q, c, ex, hst⟩ := hd 7 (by simp)
      subst eb
      dsimp only at hK ⊢
      simp only [ex] at hK ⊢
      go_simp
      exact hK _ _ hC rfl (fun j u _ h => inS_up (Below.refl _ _) rfl h)
    · refine step_mkC [] rfl rfl (fun _ _ => rfl) ?_
      intro x w5 b hb hC hd K hK
      dsimp only at hK ⊢
      go_simp
      exact hK _ _ (up_alloc hC _) ⟨_, rfl, hC.size, heap_alloc_new _ _⟩ (fun j u _ h => inS_up (up_alloc (Below.refl _ _) _) rfl h)
    · refine step_mkC [8, 6, 0, 1, 2, 3, 4, 5, 6, 7, 8, 10] rfl rfl (fun _ _ => rfl) ?_
      intro x w5 b hb hC hd K hK
      obtain ⟨eb, q, c, ex, hst⟩ := hd 8 (by simp)
      subst eb
      dsimp only at hK ⊢
      simp only [ex] at hK ⊢
      go_simp
      exact hK _ _ hC ⟨rfl, q, c, rfl, hst⟩ (fun j u _ h => inS_up (Below.refl _ _) rfl h)
    · refine tail_mkC rfl ?_
      intro x w5 hC hd K hK
      have e9 : x 9 = _ := hd 9 (by omega)
      obtain ⟨-, q, c, e11, hst⟩ := hd 11 (by omega)
      obtain ⟨g, e10, hg, hcell⟩ := hd 10 (by omega)
      have hlt := (Array.getElem?_eq_some_iff.1 hcell).1
      have c0 : w5.cell? ⟨g, 0, none⟩ = some (.int .i64 0) := by simp [World.cell?, hcell]
      have c1 : w5.cell? ⟨g, 1, none⟩ = some (.int .i64 0) := by simp [World.cell?, hcell]
      have f0 : w5.frozen? ⟨g, 0, none⟩ = false := by simp [World.frozen?, hcell]
      have f1 : w5.frozen? ⟨g, 1, none⟩ = false := by simp [World.frozen?, hcell]
      dsimp only at hK ⊢
      simp only [e9, e10, e11] at hK ⊢
      go_simp
      have F5 : Flt w5 g 0 0 := ⟨c0, c1, f0, f1, hlt⟩
      have F6 := Lib.hid (F5.set2 (Sq.vC (A2)) (Sq.vI (A2)))
      have hb6 : Below W3.heap.size w5 ((w5.setCell ⟨g, 0, none⟩ (.int .i64 (Sq.vC (A2)))).setCell ⟨g, 1, none⟩ (.int .i64 (Sq.vI (A2)))) := by
        refine Below.setCell (Below.setCell (Below.refl _ _) ?_ _) ?_ _ <;> exact hg
      have ST6 := Lib.hid (sts_far hst hcell (.int .i64 (Sq.vC (A2))) (.int .i64 (Sq.vI (A2))))
      have B6 := Lib.hid (hC.trans hb6)
      clear hb6 F5 f0 f1 c0 c1 hcell hst hlt hC
      generalize (w5.setCell ⟨g, 0, none⟩ (.int .i64 (Sq.vC (A2)))).setCell ⟨g, 1, none⟩ (.int .i64 (Sq.vI (A2))) = w6 at F6 ST6 B6 ⊢
      refine hK undef _ ?_
      clear hK
      refine hKK _ _ ?_
      clear hKK
      have BW := Lib.hid (B3.out.trans (B6.out.mono B3.out.size))
      have F1c := Lib.hid (F1b.out.up B6.out)
      have F2c := Lib.hid (F2.out.up B6.out)
      have O6 := Lib.hid (OB3.out.up B6.out)
      have S1 := Lib.hid (ST1b.out.mono B6.out)
      have S2 := Lib.hid (ST2.out.mono B6.out)
      obtain ⟨a0, -, -, -, -⟩ := F1c.out
      obtain ⟨b0, -, -, -, -⟩ := F2c.out
      obtain ⟨d0, -, -, -, -⟩ := F6.out
      have o0 := O6.out.c0
      by_cases hv : Sq.vC l = 0
      case neg =>
        have g0 : (Sq.vC l != 0) = true := by rw [bne_iff_ne]; exact hv
        clear hv
        go_wp2_with fail
        refine (latest_any _).mono ?_
        rintro e w9 ⟨rfl, hb9⟩
        go_wp2_with fail
        go_returns
        exact ⟨rfl, up_call BW.out hb9⟩
      case pos =>
      have g0 : (Sq.vC l != 0) = false := by rw [hv]; rfl
      by_cases hv2 : Sq.vC (l ++ [o]) = 0
      case neg =>
        have g1 : (Sq.vC (l ++ [o]) != 0) = true := by rw [bne_iff_ne]; exact hv2
        clear hv hv2
        go_wp2_with fail
        refine (latest_any _).mono ?_
        rintro e w9 ⟨rfl, hb9⟩
        go_wp2_with fail
        go_returns
        exact ⟨rfl, up_call BW.out hb9⟩
      case pos =>
      have g1 : (Sq.vC (l ++ [o]) != 0) = false := by rw [hv2]; rfl
      cases hd : o.del with
      | false =>
        rw [hd] at o0
        clear hv hv2
        go_wp2_with fail
        refine (latest_any _).mono ?_
        rintro e w9 ⟨rfl, hb9⟩
        go_wp2_with fail
        go_returns
        exact ⟨rfl, up_call BW.out hb9⟩
      | true =>
      rw [hd] at o0
      have I1 := Lib.hid (Sq.vL_del (Sq.val_of hv) (Sq.val_of hv2) hd)
      have I2 := Lib.hid (subS_of _ _ (Sq.vL_del_sub (Sq.val_of hv) (Sq.val_of hv2) hd))
      have I3 := Sq.vC_twice hv2
      rw [HA2.out] at I3
      have hl60 := Sq.vL_len (l ++ [o])
      clear hv hv2 hd
      have FW := Lib.hid (follows_any p2 p1 (Sq.vL (l ++ [o])) (Sq.vL l) c2' c1' w6 S2.out S1.out)
      rw [I2.out] at FW
      rw [I1.out] at FW ⊢
      generalize (Sq.vL (l ++ [o])).length = n1 at FW hl60 ⊢
      have wn : IntKind.i64.wrap ((n1 : Int) + 1) = (n1 : Int) + 1 := IntWalk.i64_in _ (by omega)
      have gn2 : ((n1 : Int) + 1 == (n1 : Int) + 1) = true := by rw [beq_iff_eq]
      generalize Sq.vC A2 = h3 at I3 d0 ⊢
      by_cases h60 : l.length + 1 = 60
      · rw [if_pos h60] at I3
        have t1 : ((l.length : Int) + 1 == 60) = true := by rw [beq_iff_eq]; omega
        have t2 : (h3 == 7) = false := by rw [I3]; rfl
        have t3 : (h3 == 2) = true := by rw [I3]; rfl
        clear I3 h60
        go_wp2_with fail
        refine FW.out.mono ?_
        rintro e w8 ⟨rfl, t, rfl⟩
        have BT := Lib.hid (below_drewN BW.out t)
        have dd : (w6.drewN t).cell? ⟨g, 0, none⟩ = some (.int .i64 h3) := by rw [World.cell?_drewN]; exact d0
        go_wp2_with fail
        refine (latest_any _).mono ?_
        rintro e w9 ⟨rfl, hb9⟩
        go_wp2_with fail
        go_returns
        exact ⟨rfl, up_call BT.out hb9⟩
      · rw [if_neg h60] at I3
        have t1 : ((l.length : Int) + 1 == 60) = false := by rw [beq_eq_false_iff_ne]; omega
        have t2 : (h3 == 7) = true := by rw [I3]; rfl
        clear I3 h60
        go_wp2_with fail
        refine FW.out.mono ?_
        rintro e w8 ⟨rfl, t, rfl⟩
        have BT := Lib.hid (below_drewN BW.out t)
        have dd : (w6.drewN t).cell? ⟨g, 0, none⟩ = some (.int .i64 h3) := by rw [World.cell?_drewN]; exact d0
        go_wp2_with fail
        refine (latest_any _).mono ?_
        rintro e w9 ⟨rfl, hb9⟩
        go_wp2_with fail
        go_returns
        exact ⟨rfl, up_call BT.out hb9⟩
end Go.Proofs.Ytidncnhhjfdifaa
