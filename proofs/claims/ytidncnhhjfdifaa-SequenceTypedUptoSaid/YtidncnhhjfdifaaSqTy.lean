
/-
  The law SequenceTyped, walked (where the text is not longer than a million lines).
-/
import Derived.Test.YtidncnhhjfdifaaSqTyM
import Derived.Test.YtidncnhhjfdifaaApp
namespace Go.Proofs.Ytidncnhhjfdifaa
open Go.RowKit
set_option maxRecDepth 4000
theorem row_litT (w : World) (o : Sq.O) : Row opE (w.alloc (.cells #[.bool o.del, .int .i64 o.rep, .int .i64 o.cnt, .int .i64 o.arep, .int .i64 o.acnt, .string o.line] 53 (0, 0))) (some ⟨w.heap.size, 0, none⟩) [o] := row_lit w w.heap.size [o] rfl
theorem OpB.set3 {w : World} {g : Nat} {d : Bool} {r c ar ac : Int} {s : ByteArray} (h : OpB w g ⟨d, r, c, ar, ac, s⟩) (x : Int) : OpB (w.setCell ⟨g, 3, none⟩ (.int .i64 x)) g ⟨d, r, c, x, ac, s⟩ := by
  have n : ∀ i, i ≠ 3 → (⟨g, 3, none⟩ : Addr) ≠ ⟨g, i, none⟩ := fun i h e => h (by cases e; rfl)
  refine ⟨?_, ?_, ?_, ?_, ?_, ?_, by rw [World.size_setCell]; exact h.lt⟩
  · rw [World.cell?_setCell_other (h := n _ (by decide)), h.c0]
  · rw [World.cell?_setCell_other (h := n _ (by decide)), h.c1]
  · rw [World.cell?_setCell_other (h := n _ (by decide)), h.c2]
  · exact World.cell?_setCell_same _ _ _ h.c3
  · rw [World.cell?_setCell_other (h := n _ (by decide)), h.c4]
  · rw [World.cell?_setCell_other (h := n _ (by decide)), h.c5]
set_option maxRecDepth 100000 in
set_option maxHeartbeats 4000000 in
theorem typed_walk (p : Option Addr) (l : List ByteArray) (cap : Nat) (r : Int) (w : World) (hp : Sts w p l) (_hN : p = none → cap = 0) (_hBig : l.length ≤ 8796093021952) (_hCap : l.length ≤ cap) (_hWf : (Lit.int .i64 r).wf = true) (hsm : l.length ≤ 1048576) :
    Calls Try.prog 13 #[.slice p l.length cap, .int .i64 r] w (TPost w) := by
  have HP := Lib.hid hp
  have HSM := Lib.hid hsm
  clear hp _hN _hBig _hCap _hWf hsm
  go_enter Try.func13, Try.ntmps13
  go_wp2_with fail
  go_loopw [5, 6] (fun v iv wr => ∃ k : Nat, k ≤ l.length ∧ iv = .int .i64 k ∧ Hid (OwnE opE w.heap.size wr v (Sq.typ r 0 (l.take k))) ∧ Hid (Below w.heap.size w wr)) (fun _ iv _ => l.length - (intOf iv).toNat)
  case atStart => exact ⟨0, Nat.zero_le _, rfl, Lib.hid (ownE_nil _ _ _), Lib.hid (Below.refl _ _)⟩
  case round =>
    obtain ⟨k, hk, rfl, hO, hB⟩ := hrel
    have b0 : (0 : Int) ≤ (k : Int) := by omega
    by_cases hlt : k < l.length
    · have g1 : decide ((k : Int) < (l.length : Int)) = true := decide_eq_true (by omega)
      have g1' : decide (k < l.length) = true := decide_eq_true hlt
      have b8 : (k : Int) < (l.length : Int) := by omega
      have wk : IntKind.i64.wrap ((k : Int) + 1) = (k : Int) + 1 := IntWalk.i64_in _ (by have := HSM.out; omega)
      obtain ⟨b, off, rfl, hb, hc⟩ := (HP.out.mono hB.out).cell hlt
      have NX := Lib.hid (Sq.typ_next r hlt)
      have HLT := Lib.hid hlt
      have LT := Lib.hid (show (Sq.typ r 0 (l.take k)).length ≤ 1048576 by rw [Sq.typ_len, List.length_take]; have := HSM.out; omega)
      obtain ⟨s, hs⟩ : ∃ s, s = l[k]'hlt := ⟨_, rfl⟩
      rw [← hs] at hc NX
      clear hs
      by_cases h0 : k = 0
      · have g6 : ((k : Int) == 0) = true := by rw [beq_iff_eq]; omega
        have g6' : (k == 0) = true := by rw [beq_iff_eq]; omega
        have ET := Lib.hid (show Sq.tp r k s = ⟨false, r, (k : Int) + 1, 0, k, s⟩ by unfold Sq.tp; rw [if_pos h0])
        clear h0
        go_wp2_with fail
        refine (insert_any ((k : Int) + 1) r k r s wr).mono ?_
        rintro e w2 ⟨rfl, hb2⟩
        have OB := (OpB.new w2 ⟨false, r, (k : Int) + 1, 0, k, s⟩)
        have U2 := boxO_up w2 ⟨false, r, (k : Int) + 1, 0, k, s⟩
        unfold boxO at OB U2
        dsimp only at OB U2
        obtain ⟨c0, c1, c2, c3, c4, c5, hlt2⟩ := OB
        have O2 := ownE_upG (ownE_upG hO.out hb2) U2
        have hz2 := up_call hB.out hb2
        have B3 := Lib.hid (hz2.trans (U2.mono hz2.size))
        dsimp only
        iterate 30 (first | go_values | go_skip | go_guarded | go_step)
        generalize w2.alloc (.cells #[.bool false, .int .i64 r, .int .i64 ((k : Int) + 1), .int .i64 0, .int .i64 k, .string s] 53 (0, 0)) = W3 at c0 c1 c2 c3 c4 c5 O2 B3 ⊢
        have R3 := Lib.hid (row_litT W3 ⟨false, r, (k : Int) + 1, 0, k, s⟩)
        have O4 := Lib.hid (ownE_upG O2 (up_alloc (Below.refl _ _) (.cells #[.bool false, .int .i64 r, .int .i64 ((k : Int) + 1), .int .i64 0, .int .i64 k, .string s] 53 (0, 0))))
        have B4 := Lib.hid (up_alloc B3.out (.cells #[.bool false, .int .i64 r, .int .i64 ((k : Int) + 1), .int .i64 0, .int .i64 k, .string s] 53 (0, 0)))
        clear U2 hb2 hlt2 O2 B3 hz2 hO hB hc hb
        go_wp2_with (at_builtin; refine wp_appN opE rfl (.tmp 29) (.tmp 31) rfl w.heap.size _ (Sq.typ r 0 (l.take k)) [⟨false, r, (k : Int) + 1, 0, k, s⟩] (some ⟨W3.heap.size, 0, none⟩) 1 rfl O4.out rfl R3.out (fun e => (by cases e)) (by have := LT.out; simp [opE]; omega) (by have := LT.out; unfold maxLen; simp; omega) B4.out.size ?_; intro v' w' own gr)
        have ON : Hid (OwnE opE w.heap.size w' v' (Sq.typ r 0 (l.take (k + 1)))) := Lib.hid (by rw [NX.out, ET.out]; exact own)
        have BN := Lib.hid (B4.out.grown gr B4.out.size (fun kb hk => (ownE_block O4.out kb hk).1))
        clear own gr
        go_wp2_with fail
        go_roundw
        case rel => exact ⟨k + 1, HLT.out, by go_num, ON, BN⟩
        case measure => simp [intOf]; omega
      · have g6 : ((k : Int) == 0) = false := by rw [beq_eq_false_iff_ne]; omega
        have g6' : (k == 0) = false := by rw [beq_eq_false_iff_ne]; omega
        have ET := Lib.hid (show Sq.tp r k s = ⟨false, r, (k : Int) + 1, r, k, s⟩ by unfold Sq.tp; rw [if_neg h0])
        clear h0
        go_wp2_with fail
        refine (insert_any ((k : Int) + 1) r k r s wr).mono ?_
        rintro e w2 ⟨rfl, hb2⟩
        have OB := (OpB.new w2 ⟨false, r, (k : Int) + 1, r, k, s⟩)
        have U2 := boxO_up w2 ⟨false, r, (k : Int) + 1, r, k, s⟩
        unfold boxO at OB U2
        dsimp only at OB U2
        obtain ⟨c0, c1, c2, c3, c4, c5, hlt2⟩ := OB
        have O2 := ownE_upG (ownE_upG hO.out hb2) U2
        have hz2 := up_call hB.out hb2
        have B3 := Lib.hid (hz2.trans (U2.mono hz2.size))
        dsimp only
        iterate 26 (first | go_values | go_skip | go_guarded | go_step)
        generalize w2.alloc (.cells #[.bool false, .int .i64 r, .int .i64 ((k : Int) + 1), .int .i64 r, .int .i64 k, .string s] 53 (0, 0)) = W3 at c0 c1 c2 c3 c4 c5 O2 B3 ⊢
        have R3 := Lib.hid (row_litT W3 ⟨false, r, (k : Int) + 1, r, k, s⟩)
        have O4 := Lib.hid (ownE_upG O2 (up_alloc (Below.refl _ _) (.cells #[.bool false, .int .i64 r, .int .i64 ((k : Int) + 1), .int .i64 r, .int .i64 k, .string s] 53 (0, 0))))
        have B4 := Lib.hid (up_alloc B3.out (.cells #[.bool false, .int .i64 r, .int .i64 ((k : Int) + 1), .int .i64 r, .int .i64 k, .string s] 53 (0, 0)))
        clear U2 hb2 hlt2 O2 B3 hz2 hO hB hc hb
        go_wp2_with (at_builtin; refine wp_appN opE rfl (.tmp 29) (.tmp 31) rfl w.heap.size _ (Sq.typ r 0 (l.take k)) [⟨false, r, (k : Int) + 1, r, k, s⟩] (some ⟨W3.heap.size, 0, none⟩) 1 rfl O4.out rfl R3.out (fun e => (by cases e)) (by have := LT.out; simp [opE]; omega) (by have := LT.out; unfold maxLen; simp; omega) B4.out.size ?_; intro v' w' own gr)
        have ON : Hid (OwnE opE w.heap.size w' v' (Sq.typ r 0 (l.take (k + 1)))) := Lib.hid (by rw [NX.out, ET.out]; exact own)
        have BN := Lib.hid (B4.out.grown gr B4.out.size (fun kb hk => (ownE_block O4.out kb hk).1))
        clear own gr
        go_wp2_with fail
        go_roundw
        case rel => exact ⟨k + 1, HLT.out, by go_num, ON, BN⟩
        case measure => simp [intOf]; omega
    · have g1 : decide ((k : Int) < (l.length : Int)) = false := decide_eq_false (by omega)
      have g1' : decide (k < l.length) = false := decide_eq_false hlt
      obtain rfl : k = l.length := by omega
      rw [List.take_length] at hO
      obtain ⟨q, c, rfl, hr, -, -, -⟩ := row_of_own hO.out
      have LS : ∀ o ∈ Sq.typ r 0 l, o.line.size ≤ 140737488351232 := fun o ho => by
        obtain ⟨j, hj, rfl⟩ := Sq.typ_mem ho
        exact HP.out.small _ (List.getElem_mem hj)
      have V1 := Lib.hid (vis_more q (Sq.typ r 0 l) c wr hr (by rw [Sq.typ_len]; have := HSM.out; omega) LS)
      have FV := Lib.hid (fun h => Sq.typ_vL (r := r) (l := l) h)
      have FC := Lib.hid (fun h => Sq.typ_vC (r := r) (l := l) h)
      have F0 : Hid (l = [] → Sq.vC (Sq.typ r 0 l) = 0) := Lib.hid (fun h => by rw [h]; rfl)
      rw [Sq.typ_len] at V1 ⊢
      clear hr LS hO
      generalize Sq.typ r 0 l = T at V1 FV FC F0 ⊢
      go_wp2_with fail
      refine V1.out.mono ?_
      rintro e w1 ⟨pm, cm, rfl, hst1, hb1⟩
      have u1 := up_alloc (Below.refl w1.heap.size w1) (.cells #[.int .i64 (Sq.vC T), .int .i64 (Sq.vI T)] 24 (0, 0))
      have uu := up_call hb1 u1
      have ST1 := Lib.hid (hst1.mono u1)
      have B1 := Lib.hid (up_call hB.out uu)
      have F1 := Lib.hid (Flt.new w1 (Sq.vC T) (Sq.vI T) 24)
      have SL := Lib.hid (HP.out.mono B1.out)
      clear hst1 hb1 u1 uu V1
      obtain ⟨a0, -, -, -, -⟩ := F1.out
      have hfd := fieldF
      by_cases hn : l = []
      case' pos =>
        have n0 : decide ((0 : Int) < (l.length : Int)) = false := decide_eq_false (by rw [hn]; decide)
        have n0' : decide (0 < l.length) = false := decide_eq_false (by rw [hn]; decide)
        have n1 : decide ((60 : Int) < (l.length : Int)) = false := decide_eq_false (by rw [hn]; decide)
        have hz := F0.out hn
        have n2 : (Sq.vC T != 0) = false := by rw [hz]; rfl
        have n3 : (Sq.vC T == 0) = true := by rw [hz]; rfl
        have LL := Lib.hid (FV.out hz)
        have LV : Hid (Lin.vC l = 0) := Lib.hid (by rw [hn]; rfl)
        have lv0 : (Lin.vC l != 0) = false := by rw [LV.out]; rfl
      case pos =>
        clear hn hz
        by_cases h1 : r < 0
        · have g2 : decide (r < 0) = true := decide_eq_true h1
          clear h1
          go_wp2_with fail
          refine (latest_any _).mono ?_
          rintro e w9 ⟨rfl, hb9⟩
          go_wp2_with fail
          go_ret
          exact ⟨rfl, up_call B1.out hb9⟩
        · by_cases h2 : 6 ≤ r
          · have g2 : decide (r < 0) = false := decide_eq_false h1
            have g3 : decide (6 ≤ r) = true := decide_eq_true h2
            clear h1 h2
            go_wp2_with fail
            refine (latest_any _).mono ?_
            rintro e w9 ⟨rfl, hb9⟩
            go_wp2_with fail
            go_ret
            exact ⟨rfl, up_call B1.out hb9⟩
          · have g2 : decide (r < 0) = false := decide_eq_false h1
            have g3 : decide (6 ≤ r) = false := decide_eq_false h2
            clear h1 h2
            go_wp2_with (go_at_call 35; refine (validate_any p l l.length cap _ rfl SL.out).mono ?_; rintro e w5 ⟨rfl, hb5⟩; have F5 := F1.out.up hb5; obtain ⟨a5, -, -, -, -⟩ := F5)
            refine (equal_any pm p (Sq.vL T) l _ _ cm cap _ rfl rfl (ST1.out.mono hb5) (SL.out.mono hb5)).mono ?_
            rintro e w6 ⟨rfl, m, rfl⟩
            rw [eqS_true LL.out]
            have B6 := Lib.hid (below_drewN (up_call B1.out hb5) m)
            go_wp2_with fail
            refine (latest_any _).mono ?_
            rintro e w9 ⟨rfl, hb9⟩
            go_wp2_with fail
            go_ret
            exact ⟨rfl, up_call B6.out hb9⟩
      case neg =>
        have hl0 : 0 < l.length := List.length_pos_iff.2 hn
        have n0 : decide ((0 : Int) < (l.length : Int)) = true := decide_eq_true (by omega)
        have n0' : decide (0 < l.length) = true := decide_eq_true hl0
        have FC2 := Lib.hid (FC.out hn)
        clear hn hl0 FC F0
        by_cases h1 : r < 0
        · have g2 : decide (r < 0) = true := decide_eq_true h1
          have n2 : (Sq.vC T != 0) = true := by rw [bne_iff_ne]; intro h; have := FC2.out.1 h; omega
          clear h1
          go_wp2_with fail
          refine (latest_any _).mono ?_
          rintro e w9 ⟨rfl, hb9⟩
          go_wp2_with fail
          go_ret
          exact ⟨rfl, up_call B1.out hb9⟩
        · have g2 : decide (r < 0) = false := decide_eq_false h1
          by_cases h2 : 6 ≤ r
          · have g3 : decide (6 ≤ r) = true := decide_eq_true h2
            have n2 : (Sq.vC T != 0) = true := by rw [bne_iff_ne]; intro h; have := FC2.out.1 h; omega
            clear h1 h2
            go_wp2_with fail
            refine (latest_any _).mono ?_
            rintro e w9 ⟨rfl, hb9⟩
            go_wp2_with fail
            go_ret
            exact ⟨rfl, up_call B1.out hb9⟩
          · have g3 : decide (6 ≤ r) = false := decide_eq_false h2
            by_cases h3 : 60 < l.length
            · have n1 : decide ((60 : Int) < (l.length : Int)) = true := decide_eq_true (by omega)
              have n2 : (Sq.vC T != 0) = true := by rw [bne_iff_ne]; intro h; have := FC2.out.1 h; omega
              clear h1 h2 h3
              go_wp2_with fail
              refine (latest_any _).mono ?_
              rintro e w9 ⟨rfl, hb9⟩
              go_wp2_with fail
              go_ret
              exact ⟨rfl, up_call B1.out hb9⟩
            · have n1 : decide ((60 : Int) < (l.length : Int)) = false := decide_eq_false (by omega)
              by_cases h4 : Lin.vC l = 0
              · have hz := FC2.out.2 ⟨⟨by omega, by omega⟩, by omega, h4⟩
                have n3 : (Sq.vC T == 0) = true := by rw [hz]; rfl
                have LL := Lib.hid (FV.out hz)
                have lv0 : (Lin.vC l != 0) = false := by rw [h4]; rfl
                clear h1 h2 h3 h4 hz
                go_wp2_with (go_at_call 35; refine (validate_any p l l.length cap _ rfl SL.out).mono ?_; rintro e w5 ⟨rfl, hb5⟩; have F5 := F1.out.up hb5; obtain ⟨a5, -, -, -, -⟩ := F5)
                refine (equal_any pm p (Sq.vL T) l _ _ cm cap _ rfl rfl (ST1.out.mono hb5) (SL.out.mono hb5)).mono ?_
                rintro e w6 ⟨rfl, m, rfl⟩
                rw [eqS_true LL.out]
                have B6 := Lib.hid (below_drewN (up_call B1.out hb5) m)
                go_wp2_with fail
                refine (latest_any _).mono ?_
                rintro e w9 ⟨rfl, hb9⟩
                go_wp2_with fail
                go_ret
                exact ⟨rfl, up_call B6.out hb9⟩
              · have n2 : (Sq.vC T != 0) = true := by rw [bne_iff_ne]; intro h; exact h4 (FC2.out.1 h).2.2
                have lv0 : (Lin.vC l != 0) = true := by rw [bne_iff_ne]; exact h4
                clear h1 h2 h3 h4
                go_wp2_with (go_at_call 35; refine (validate_any p l l.length cap _ rfl SL.out).mono ?_; rintro e w5 ⟨rfl, hb5⟩; have F5 := F1.out.up hb5; obtain ⟨a5, -, -, -, -⟩ := F5)
                refine (latest_any _).mono ?_
                rintro e w9 ⟨rfl, hb9⟩
                go_wp2_with fail
                go_ret
                exact ⟨rfl, up_call (up_call B1.out hb5) hb9⟩
end Go.Proofs.Ytidncnhhjfdifaa
