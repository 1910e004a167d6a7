
/-
  The program's Highlight, walked.
-/
import Derived.Test.YtkfloglpihbdjaaWdB
import Derived.Test.YtkfloglpihbdjaaDfH
import Derived.Test.YtkfloglpihbdjaaTqG
namespace Go.Proofs.Ytkfloglpihbdjaa
open Go.RowKit
set_option maxRecDepth 4000

/-- Highlight returns -/
def HlPost (s t : ByteArray) (w : World) (e : Ending) (w' : World) : Prop :=
  ∃ v1 v2, e = .returned (.tuple #[v1, v2, .agg #[.int .i64 (Wd.hc s t), .int .i64 (Wd.hi s t)]]) ∧ OwnE prE w.heap.size w' v1 (Wd.h1 s t) ∧ OwnE prE w.heap.size w' v2 (Wd.h2 s t) ∧ Below w.heap.size w w'
theorem hl_bad1 {s t : ByteArray} (h : Lin.lc s ≠ 0) : Wd.hc s t = Lin.lc s ∧ Wd.hi s t = 0 ∧ Wd.h1 s t = [] ∧ Wd.h2 s t = [] :=
  ⟨if_pos h, if_pos h, if_neg (fun e => h e.1), if_neg (fun e => h e.1)⟩
theorem hl_bad2 {s t : ByteArray} (h : Lin.lc s = 0) (h' : Lin.lc t ≠ 0) : Wd.hc s t = Lin.lc t ∧ Wd.hi s t = 1 ∧ Wd.h1 s t = [] ∧ Wd.h2 s t = [] :=
  ⟨if_neg (by simp [h]), by unfold Wd.hi; rw [if_neg (by simp [h]), if_pos h'], if_neg (fun e => h' e.2), if_neg (fun e => h' e.2)⟩
theorem hl_ok {s t : ByteArray} (h : Lin.lc s = 0) (h' : Lin.lc t = 0) : Wd.hc s t = 0 ∧ Wd.hi s t = 0 ∧ Wd.h1 s t = (Wd.rg 1 (Dif.al (Wd.tk s) (Wd.tk t))).full ∧ Wd.h2 s t = (Wd.rg 2 (Dif.al (Wd.tk s) (Wd.tk t))).full :=
  ⟨by unfold Wd.hc; rw [if_neg (by simp [h]), h'], by unfold Wd.hi; rw [if_neg (by simp [h]), if_neg (by simp [h'])], if_pos ⟨h, h'⟩, if_pos ⟨h, h'⟩⟩
/-- tokens as a slice -/
theorem toks_open {base : Nat} {w : World} {v : Value} {s : ByteArray} (h : OwnE strE base w v (Wd.tk s)) (hs : s.size ≤ 80) :
    ∃ p cap, v = .slice p (Wd.tk s).length cap ∧ Sts w p (Wd.tk s) ∧ (p = none → cap = 0) ∧ (Wd.tk s).length ≤ cap := by
  obtain ⟨p, cap, e, row, h1, h2, -⟩ := row_of_own h
  refine ⟨p, cap, e, row.sts (fun x hx => by have := Wd.tk_size s x hx; omega) (by have := Wd.tk_len s; omega), h1, h2⟩

set_option maxRecDepth 100000 in
set_option maxHeartbeats 8000000 in
theorem highlight_any (s t : ByteArray) (w : World) (hs : s.size ≤ 140737488351232) (ht : t.size ≤ 140737488351232) : Calls Try.prog 9 #[.string s, .string t] w (HlPost s t w) := by
  have F0 := Lib.hid (Flt.new w 0 0 24)
  have B0 := Lib.hid (up_alloc (Below.refl w.heap.size w) (.cells #[.int .i64 0, .int .i64 0] 24 (0, 0)))
  go_enter Try.func9, Try.ntmps9
  go_wp2_with fail
  refine (tokens_any s _ hs).mono ?_
  rintro e w1 ⟨v1, rfl, own1, hb1⟩
  have B1 := Lib.hid (up_call B0.out hb1)
  have b1 := up_alloc (Below.refl w1.heap.size w1) (.cells #[.int .i64 (Lin.lc s), .int .i64 0] 24 (0, 0))
  have F1 := Lib.hid ((F0.out.up hb1).up b1)
  have G1 := Lib.hid (Flt.new w1 (Lin.lc s) 0 24)
  have B2 := Lib.hid (up_alloc B1.out (.cells #[.int .i64 (Lin.lc s), .int .i64 0] 24 (0, 0)))
  have O1 := Lib.hid (World.ownsRow.alloc (e := 9) own1 (.cells #[.int .i64 (Lin.lc s), .int .i64 0] 24 (0, 0)))
  have Z1 : Hid (w.heap.size < w1.heap.size) := Lib.hid (by have := hb1.size; rw [World.size_alloc] at this; omega)
  have N1 : Hid (∀ b, v1.ownBlock = some b → b < w1.heap.size) := Lib.hid (fun b hb => (own_block (ownE_ofS own1) b hb).2)
  clear hb1 own1 b1 F0 B0 B1
  by_cases h1 : Lin.lc s = 0
  · rw [h1] at F1 G1 B2 O1 ⊢
    have hsz := (Lin.lc_zero h1).1
    have H1 := Lib.hid h1
    rw [show tL s = Wd.tk s from if_pos h1] at O1
    clear h1
    have g0 := G1.out.c0
    have g1 := G1.out.c1
    go_wp2_with fail
    refine (tokens_any t _ ht).mono ?_
    rintro e w2 ⟨v2, rfl, own2, hb2⟩
    have B3 := Lib.hid (up_call B2.out hb2)
    have F3 := Lib.hid (F1.out.up hb2)
    have G3 := Lib.hid (G1.out.up hb2)
    have O3 := Lib.hid (ownE_ofS O1.out |>.up hb2)
    have O2 := Lib.hid (ownE_ofS own2)
    have N2 : Hid (∀ b, v2.ownBlock = some b → w1.heap.size < b) := Lib.hid (fun b hb => by have := (own_block (ownE_ofS own2) b hb).1; rw [World.size_alloc] at this; omega)
    clear hb2 own2 g0 g1 F1 G1 B2 O1
    by_cases h2 : Lin.lc t = 0
    · rw [h2] 
      have htz := (Lin.lc_zero h2).1
      have H2 := Lib.hid h2
      rw [show tL t = Wd.tk t from if_pos h2] at O2
      have OK := Lib.hid (Wd.tk_okD H1.out h2)
      clear h2
      have G4 := Lib.hid (G3.out.set2 0 0)
      have z := Lib.hid (Nat.le_of_lt Z1.out)
      have F4 := Lib.hid (F3.out.far (g' := w1.heap.size) (by have := Z1.out; omega) (.int .i64 0) (.int .i64 0))
      have B4 := Lib.hid ((B3.out.setCell (p := ⟨w1.heap.size, 0, none⟩) z.out (.int .i64 0)).setCell (p := ⟨w1.heap.size, 1, none⟩) z.out (.int .i64 0))
      have O4 := Lib.hid ((O3.out.set (g := w1.heap.size) (k := 0) (fun b hb => by have := N1.out b hb; omega) (.int .i64 0)).set (g := w1.heap.size) (k := 1) (fun b hb => by have := N1.out b hb; omega) (.int .i64 0))
      have P4 := Lib.hid ((O2.out.set (g := w1.heap.size) (k := 0) (fun b hb => by have := N2.out b hb; omega) (.int .i64 0)).set (g := w1.heap.size) (k := 1) (fun b hb => by have := N2.out b hb; omega) (.int .i64 0))
      obtain ⟨p1, c1, rfl, S1, n1, k1⟩ := toks_open O4.out hsz
      obtain ⟨p2, c2, rfl, S2, n2, k2⟩ := toks_open P4.out htz
      have T1 := Lib.hid S1
      have T2 := Lib.hid S2
      have M1 := Lib.hid (And.intro n1 k1)
      have M2 := Lib.hid (And.intro n2 k2)
      obtain ⟨g0, g1, g2, g3, g4⟩ := G3.out
      have x0 := G4.out.c0
      have x1 := G4.out.c1
      clear S1 S2 n1 k1 n2 k2 O4 P4 O2 O3
      go_wp2_with fail
      obtain ⟨W, hW⟩ : ∃ W, W = (w2.setCell ⟨w1.heap.size, 0, none⟩ (.int .i64 0)).setCell ⟨w1.heap.size, 1, none⟩ (.int .i64 0) := ⟨_, rfl⟩
      rw [← hW] at F4 B4 T1 T2 ⊢
      clear hW x0 x1 g0 g1 g2 g3 g4 G3 G4 B3 F3 N1 N2
      refine (script_any p1 p2 (Wd.tk s) (Wd.tk t) _ _ c1 c2 _ rfl rfl T1.out T2.out M1.out.1 M2.out.1 M1.out.2 M2.out.2).mono ?_
      rintro e w5 ⟨pp, cp, rfl, ptc, -, -, hb5⟩
      rw [(tC_ok OK.out).1, (tC_ok OK.out).2]
      rw [show sD (Wd.tk s) (Wd.tk t) = Dif.pof (Dif.al (Wd.tk s) (Wd.tk t)) from if_pos OK.out] at ptc ⊢
      have SI := Lib.hid (Wd.sides (Wd.tk s) (Wd.tk t))
      have VI := Lib.hid (Wd.script_inv OK.out)
      have EH := Lib.hid (hl_ok H1.out H2.out)
      rw [← SI.out.1, ← SI.out.2.1] at EH
      obtain ⟨hs', hhs⟩ : ∃ x, x = Dif.pof (Dif.al (Wd.tk s) (Wd.tk t)) := ⟨_, rfl⟩
      rw [← hhs] at ptc SI VI EH ⊢
      clear hhs
      have b6 := up_alloc (up_alloc (Below.refl w5.heap.size w5) (.cells #[.slice pp hs'.length cp] 48 (0, 0))) (.cells #[.int .i64 0, .int .i64 0] 24 (0, 0))
      have b5 := hb5.trans (b6.mono hb5.size)
      have B6 := Lib.hid (up_call B4.out b5)
      have F6 := Lib.hid (F4.out.up b5)
      have U1 := Lib.hid (T1.out.mono b5)
      have U2 := Lib.hid (T2.out.mono b5)
      have Q6 := Lib.hid (ptc.mono b6)
      have O6 := Lib.hid ((One.new w5 (.slice pp hs'.length cp) 48 w5.heap.size rfl).alloc (.cells #[.int .i64 0, .int .i64 0] 24 (0, 0)))
      have o6 := O6.out.c
      clear hb5 ptc b6 b5 F4 B4 T1 T2
      go_wp2_with fail
      obtain ⟨W6, hW⟩ : ∃ W, W = (w5.alloc (.cells #[.slice pp hs'.length cp] 48 (0, 0))).alloc (.cells #[.int .i64 0, .int .i64 0] 24 (0, 0)) := ⟨_, rfl⟩
      rw [← hW] at B6 F6 U1 U2 Q6 O6 o6 ⊢
      clear hW
      have vl := VI.out.1.len
      refine (tpInvert_any pp hs' _ cp _ rfl Q6.out (by omega)).mono ?_
      rintro e w7 ⟨pi, ci, rfl, pti, -, -, hb7⟩
      have hv := Tp.vC'_zero.2 VI.out
      have hv2 : Tp.vI' hs' = 0 := by unfold Tp.vI'; rw [if_neg (by simp [Tp.pC_zero.2 VI.out.1]), if_neg (by simp [Tp.pC_zero.2 VI.out.2])]
      rw [hv, hv2]
      rw [show Tp.vT hs' = Tp.iv 0 hs' from if_pos hv] at pti ⊢
      have li : (Tp.iv 0 hs').length = hs'.length := Tp.iv_len hs' 0
      obtain ⟨is', his⟩ : ∃ x, x = Tp.iv 0 hs' := ⟨_, rfl⟩
      rw [← his] at pti SI EH li ⊢
      have LI := Lib.hid li
      clear his hv hv2 li
      have b8 := up_alloc (up_alloc (Below.refl w7.heap.size w7) (.cells #[.slice pi is'.length ci] 48 (0, 0))) (.cells #[.int .i64 0, .int .i64 0] 24 (0, 0))
      have b7 := hb7.trans (b8.mono hb7.size)
      have B8 := Lib.hid (up_call B6.out b7)
      have F8 := Lib.hid (F6.out.up b7)
      have V1 := Lib.hid (U1.out.mono b7)
      have V2 := Lib.hid (U2.out.mono b7)
      have R1 := Lib.hid (Q6.out.mono b7)
      have R2 := Lib.hid (pti.mono b8)
      have O8 := Lib.hid (O6.out.up b7)
      have I8 := Lib.hid ((One.new w7 (.slice pi is'.length ci) 48 w7.heap.size rfl).alloc (.cells #[.int .i64 0, .int .i64 0] 24 (0, 0)))
      clear hb7 pti b8 b7 F6 B6 U1 U2 O6 o6 Q6
      go_wp2_with fail
      obtain ⟨X, hX⟩ : ∃ W, W = (w7.alloc (.cells #[.slice pi is'.length ci] 48 (0, 0))).alloc (.cells #[.int .i64 0, .int .i64 0] 24 (0, 0)) := ⟨_, rfl⟩
      rw [← hX] at B8 F8 V1 V2 R1 R2 O8 I8 ⊢
      clear hX
      have li := LI.out
      have js : (Wd.jo (Wd.tk s)).length ≤ 1000000 := by rw [Wd.jo_tk, Wd.dl]; omega
      have jt : (Wd.jo (Wd.tk t)).length ≤ 1000000 := by rw [Wd.jo_tk, Wd.dl]; omega
      have ls := Wd.tk_len s
      have lt := Wd.tk_len t
      have K1 := Lib.hid (fun (Y : World) (hY : Below X.heap.size X Y) => deleted_any pp hs' _ cp p1 (Wd.tk s) _ c1 Y rfl rfl (R1.out.mono hY) (V1.out.mono hY) (by omega) js (by omega) SI.out.2.2.1)
      have K2 := Lib.hid (fun (Y : World) (hY : Below X.heap.size X Y) => deleted_any pi is' _ ci p2 (Wd.tk t) _ c2 Y rfl rfl (R2.out.mono hY) (V2.out.mono hY) (by omega) jt (by omega) SI.out.2.2.2)
      obtain ⟨f0, f1, f2, f3, f4⟩ := F8.out
      have o1 := O8.out.c
      have i1 := I8.out.c
      have o2 := O8.out.lt
      have i2 := I8.out.lt
      have y1 := World.new_ne X ⟨w.heap.size, 0, none⟩ f0
      have n5 : w5.heap.size ≠ w.heap.size := fun e => by rw [e, f0] at o1; cases o1
      have n7 : w7.heap.size ≠ w.heap.size := fun e => by rw [e, f0] at i1; cases i1
      clear js jt ls lt vl li LI SI VI OK
      go_region_held3 (fun w' => w'.cell? ⟨w5.heap.size, 0, none⟩ = some (.slice pp hs'.length cp) ∧ w'.cell? ⟨w7.heap.size, 0, none⟩ = some (.slice pi is'.length ci) ∧ w'.cell? ⟨w.heap.size, 0, none⟩ = some (.int .i64 0) ∧ w'.cell? ⟨w.heap.size, 1, none⟩ = some (.int .i64 0)) (go_keep)
        (first
          | (go_at_call_of 24 pp
             refine (K1.out _ (by first | exact BL.out | exact (Below.refl _ _).drew)).mono ?_
             rintro e wA ⟨vA, rfl, ownA, hbA⟩
             obtain ⟨a1, a2, rfl, -, -, -, -⟩ := row_of_own ownA
             first | (have OB := Lib.hid (OB.out.up hbA)) | skip
             first | (have BL := Lib.hid (BL.out.trans (hbA.mono BL.out.size))) | (have BL : Hid (Below X.heap.size X wA) := Lib.hid ((Below.refl _ _).drew.trans (hbA.mono (by simp))))
             have zA := BL.out.size
             have OA := Lib.hid (ownA.le (base' := w.heap.size + 1) (by first | (simp; omega) | (have := BL.out.size; simp; omega) | (have := zA; simp; omega) | omega))
             have m1 := (BL.out.cell (p := ⟨w5.heap.size, 0, none⟩) o2).trans o1
             have m2 := (BL.out.cell (p := ⟨w7.heap.size, 0, none⟩) i2).trans i1
             have m3 := (BL.out.cell (p := ⟨w.heap.size, 0, none⟩) f4).trans f0
             have m4 := (BL.out.cell (p := ⟨w.heap.size, 1, none⟩) f4).trans f1
             have m5 := (BL.out.frozen (p := ⟨w.heap.size, 0, none⟩) f4).trans f2
             have m6 := (BL.out.frozen (p := ⟨w.heap.size, 1, none⟩) f4).trans f3
             clear ownA hbA)
          | (go_at_call_of 24 pi
             refine (K2.out _ (by first | exact BL.out | exact (Below.refl _ _).drew)).mono ?_
             rintro e wB ⟨vB, rfl, ownB, hbB⟩
             obtain ⟨b1, b2, rfl, -, -, -, -⟩ := row_of_own ownB
             first | (have OA := Lib.hid (OA.out.up hbB)) | skip
             first | (have BL := Lib.hid (BL.out.trans (hbB.mono BL.out.size))) | (have BL : Hid (Below X.heap.size X wB) := Lib.hid ((Below.refl _ _).drew.trans (hbB.mono (by simp))))
             have OB := Lib.hid (ownB.le (base' := w.heap.size + 1) (by first | (simp; omega) | (have := BL.out.size; simp; omega) | (have := zA; simp; omega) | omega))
             have m1 := (BL.out.cell (p := ⟨w5.heap.size, 0, none⟩) o2).trans o1
             have m2 := (BL.out.cell (p := ⟨w7.heap.size, 0, none⟩) i2).trans i1
             have m3 := (BL.out.cell (p := ⟨w.heap.size, 0, none⟩) f4).trans f0
             have m4 := (BL.out.cell (p := ⟨w.heap.size, 1, none⟩) f4).trans f1
             have m5 := (BL.out.frozen (p := ⟨w.heap.size, 0, none⟩) f4).trans f2
             have m6 := (BL.out.frozen (p := ⟨w.heap.size, 1, none⟩) f4).trans f3
             have m7 : ((wB.setCell ⟨w.heap.size, 0, none⟩ (.int .i64 0)).setCell ⟨w.heap.size, 1, none⟩ (.int .i64 0)).cell? ⟨w5.heap.size, 0, none⟩ = some (.slice pp hs'.length cp) := by
               rw [World.cell?_setCell_other (h := fun e => n5 (congrArg Addr.block e).symm), World.cell?_setCell_other (h := fun e => n5 (congrArg Addr.block e).symm), m1]
             have m8 : ((wB.setCell ⟨w.heap.size, 0, none⟩ (.int .i64 0)).setCell ⟨w.heap.size, 1, none⟩ (.int .i64 0)).cell? ⟨w7.heap.size, 0, none⟩ = some (.slice pi is'.length ci) := by
               rw [World.cell?_setCell_other (h := fun e => n7 (congrArg Addr.block e).symm), World.cell?_setCell_other (h := fun e => n7 (congrArg Addr.block e).symm), m2]
             obtain ⟨d0, d1, -, -, -⟩ := (F8.out.up BL.out).set2 0 0
             clear ownB hbB))
      all_goals
        have BF := Lib.hid (up_call B8.out BL.out)
        have rs : ∀ {v : Value} {l : List (Nat × Nat)}, OwnE prE (w.heap.size + 1) wB v l → OwnE prE w.heap.size ((wB.setCell ⟨w.heap.size, 0, none⟩ (.int .i64 0)).setCell ⟨w.heap.size, 1, none⟩ (.int .i64 0)) v l := fun h => OwnE.le (ownsRow_setCell_below (ownsRow_setCell_below h (a := ⟨w.heap.size, 0, none⟩) (Nat.lt_succ_self _) _) (a := ⟨w.heap.size, 1, none⟩) (Nat.lt_succ_self _) _) (Nat.le_succ _)
        go_wp2_with fail
        refine bodyPost_ret (v := .tuple #[.slice a1 (Wd.dr (Wd.tk s) (Wd.pl hs')).length a2, .slice b1 (Wd.dr (Wd.tk t) (Wd.pl is')).length b2, .agg #[.int .i64 0, .int .i64 0]]) (by simp [results, Try.results9, go_sem, d0, d1]) rfl ⟨_, _, by rw [EH.out.1, EH.out.2.1], ?_, ?_, ?_⟩
        · rw [EH.out.2.2.1]; exact rs OA.out
        · rw [EH.out.2.2.2]; exact rs OB.out
        · exact (BF.out.setCell (Nat.le_refl _) _).setCell (Nat.le_refl _) _
    · have E := Lib.hid (hl_bad2 H1.out h2)
      have hne : (Lin.lc t == 0) = false := by rw [beq_eq_false_iff_ne]; exact h2
      obtain ⟨e0, e1, -, -, -⟩ := G3.out.set2 (Lin.lc t) 0
      obtain ⟨g0, g1, g2, g3, g4⟩ := G3.out
      have F4 := Lib.hid (F3.out.far (g' := w1.heap.size) (by have := Z1.out; omega) (.int .i64 (Lin.lc t)) (.int .i64 0))
      obtain ⟨d0, d1, -, -, -⟩ := F4.out.set2 (Lin.lc t) 1
      obtain ⟨a0, a1, a2, a3, a4⟩ := F4.out
      go_wp2_with fail
      go_region
      go_wp2_with fail
      refine bodyPost_ret (v := .tuple #[.slice none 0 0, .slice none 0 0, .agg #[.int .i64 (Lin.lc t), .int .i64 1]]) (by simp [results, Try.results9, go_sem, d0, d1]) rfl ⟨_, _, by rw [E.out.1, E.out.2.1], by rw [E.out.2.2.1]; exact ownE_nil _ _ _, by rw [E.out.2.2.2]; exact ownE_nil _ _ _, ?_⟩
      have z := Nat.le_of_lt Z1.out
      exact (((B3.out.setCell z _).setCell z _).drew.setCell (Nat.le_refl _) _).setCell (Nat.le_refl _) _
  · have E := Lib.hid (hl_bad1 (t := t) h1)
    have hne : (Lin.lc s == 0) = false := by rw [beq_eq_false_iff_ne]; exact h1
    obtain ⟨d0, d1, -, -, -⟩ := F1.out.set2 (Lin.lc s) 0
    obtain ⟨a0, a1, a2, a3, a4⟩ := F1.out
    obtain ⟨g0, g1, -, -, -⟩ := G1.out
    go_wp2_with fail
    go_region
    go_wp2_with fail
    refine bodyPost_ret (v := .tuple #[.slice none 0 0, .slice none 0 0, .agg #[.int .i64 (Lin.lc s), .int .i64 0]]) (by simp [results, Try.results9, go_sem, d0, d1]) rfl ⟨_, _, by rw [E.out.1, E.out.2.1], by rw [E.out.2.2.1]; exact ownE_nil _ _ _, by rw [E.out.2.2.2]; exact ownE_nil _ _ _, ?_⟩
    exact (B2.out.drew.setCell (Nat.le_refl _) _).setCell (Nat.le_refl _) _
end Go.Proofs.Ytkfloglpihbdjaa
