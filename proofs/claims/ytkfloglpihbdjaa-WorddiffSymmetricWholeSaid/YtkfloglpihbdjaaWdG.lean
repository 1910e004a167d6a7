
/-
  The law on two lines without a common token, walked: both are highlighted completely.
-/
import Derived.Test.YtkfloglpihbdjaaWdF
namespace Go.Proofs.Ytkfloglpihbdjaa
open Go.RowKit
set_option maxRecDepth 4000

theorem kS_none {s t : ByteArray} (h : ∀ x ∈ Wd.tk s, x ∉ Wd.tk t) : kS s t = ⟨#[]⟩ := by
  unfold kS; rw [Wd.kp_none _ _ h]; rfl
set_option maxRecDepth 100000 in
set_option maxHeartbeats 8000000 in
theorem whole_walk (s t : ByteArray) (w : World) (hs : s.size ≤ 140737488351232) (ht : t.size ≤ 140737488351232) :
    Calls Try.prog 6 #[.string s, .string t] w (TPost w) := by
  go_enter Try.func6, Try.ntmps6
  go_wp2_with fail
  refine (highlight_any s t _ hs ht).mono ?_
  rintro e w1 ⟨v1, v2, rfl, own1, own2, hb1⟩
  have b1 := up_alloc (Below.refl w1.heap.size w1) (.cells #[.int .i64 (Wd.hc s t), .int .i64 (Wd.hi s t)] 24 (0, 0))
  have F1 := Lib.hid (Flt.new w1 (Wd.hc s t) (Wd.hi s t) 24)
  have B1 := Lib.hid (hb1.trans (b1.mono hb1.size))
  obtain ⟨p1, c1, rfl, row1, -, -, -⟩ := row_of_own own1
  obtain ⟨p2, c2, rfl, row2, -, -, -⟩ := row_of_own own2
  have R1 := Lib.hid (row1.mono b1)
  have R2 := Lib.hid (row2.mono b1)
  clear own1 own2 row1 row2 b1 hb1
  go_wp2_with fail
  obtain ⟨W1, hW⟩ : ∃ W, W = w1.alloc (.cells #[.int .i64 (Wd.hc s t), .int .i64 (Wd.hi s t)] 24 (0, 0)) := ⟨_, rfl⟩
  rw [← hW] at F1 B1 R1 R2 ⊢
  clear hW
  refine (tokens_any s _ hs).mono ?_
  rintro e w2 ⟨v, rfl, own, hb2⟩
  have b2 := up_alloc (Below.refl w2.heap.size w2) (.cells #[.int .i64 (Lin.lc s), .int .i64 0] 24 (0, 0))
  have u2 := hb2.trans (b2.mono hb2.size)
  have F2 := Lib.hid (Flt.new w2 (Lin.lc s) 0 24)
  have B2 := Lib.hid (up_call B1.out u2)
  have F1b := Lib.hid (F1.out.up u2)
  have R1b := Lib.hid (R1.out.mono u2)
  have R2b := Lib.hid (R2.out.mono u2)
  obtain ⟨pk, ck, rfl, S1, -, -⟩ := tl_open own
  have T2 := Lib.hid (S1.mono b2)
  clear own S1 b2 hb2 u2 F1 B1 R1 R2
  go_wp2_with fail
  obtain ⟨W2, hW⟩ : ∃ W, W = w2.alloc (.cells #[.int .i64 (Lin.lc s), .int .i64 0] 24 (0, 0)) := ⟨_, rfl⟩
  rw [← hW] at F2 B2 F1b R1b R2b T2 ⊢
  clear hW
  refine (tokens_any t _ ht).mono ?_
  rintro e w3 ⟨v, rfl, own, hb3⟩
  have b3 := up_alloc (Below.refl w3.heap.size w3) (.cells #[.int .i64 (Lin.lc t), .int .i64 0] 24 (0, 0))
  have u3 := hb3.trans (b3.mono hb3.size)
  have F3 := Lib.hid (Flt.new w3 (Lin.lc t) 0 24)
  have B3 := Lib.hid (up_call B2.out u3)
  have F1c := Lib.hid (F1b.out.up u3)
  have F2c := Lib.hid (F2.out.up u3)
  have R1c := Lib.hid (R1b.out.mono u3)
  have R2c := Lib.hid (R2b.out.mono u3)
  have T2c := Lib.hid (T2.out.mono u3)
  obtain ⟨pl, cl, rfl, S2, -, -⟩ := tl_open own
  have T3 := Lib.hid (S2.mono b3)
  clear own S2 b3 hb3 u3 F2 B2 F1b R1b R2b T2
  by_cases hz : Lin.lc s = 0 ∧ Lin.lc t = 0
  · have HR := Lib.hid (hl_rest hz)
    have h0 := hc_zero.2 hz
    have z1 := (Lin.lc_zero hz.1).1
    have z2 := (Lin.lc_zero hz.2).1
    have e1 : tL s = Wd.tk s := if_pos hz.1
    have e2 : tL t = Wd.tk t := if_pos hz.2
    rw [e1] at T2c ⊢
    rw [e2] at T3 ⊢
    rw [hz.2] at F3 B3 F1c F2c R1c R2c T2c T3 ⊢
    rw [hz.1] at F2c ⊢
    rw [h0] at F1c ⊢
    have n1 := Wd.tk_len s
    have n2 := Wd.tk_len t
    have l1 := ord_len _ _ HR.out.1
    have l2 := ord_len _ _ HR.out.2.2.1
    have K1 := fun Y (h : Row prE Y p1 (Wd.h1 s t)) => rest_any s p1 (Wd.h1 s t) _ c1 Y rfl h HR.out.1 (by omega) (by omega)
    have K2 := fun Y (h : Row prE Y p2 (Wd.h2 s t)) => rest_any t p2 (Wd.h2 s t) _ c2 Y rfl h HR.out.2.2.1 (by omega) (by omega)
    rw [HR.out.2.1] at K1
    rw [HR.out.2.2.2] at K2
    have KN := Lib.hid (fun h => kS_none (s := s) (t := t) h)
    obtain ⟨x, hx⟩ : ∃ x, x = Wd.h1 s t := ⟨_, rfl⟩
    obtain ⟨y, hy⟩ : ∃ x, x = Wd.h2 s t := ⟨_, rfl⟩
    obtain ⟨k, hk⟩ : ∃ k, k = Wd.tk s := ⟨_, rfl⟩
    obtain ⟨l, hl⟩ : ∃ k, k = Wd.tk t := ⟨_, rfl⟩
    obtain ⟨q, hq⟩ : ∃ k, k = kS s t := ⟨_, rfl⟩
    rw [← hx] at R1c K1 l1 ⊢
    rw [← hy] at R2c K2 l2 ⊢
    rw [← hk] at T2c KN n1 ⊢
    rw [← hl] at T3 KN n2 ⊢
    rw [← hq] at K1 K2 KN
    have f1 := F1c.out.c0
    have f2 := F2c.out.c0
    have f3 := F3.out.c0
    have HZ := Lib.hid hz
    clear hk hl hq hx hy h0 HR hz e1 e2
    go_wp2_with fail
    obtain ⟨W3, hW⟩ : ∃ W, W = w3.alloc (.cells #[.int .i64 0, .int .i64 0] 24 (0, 0)) := ⟨_, rfl⟩
    rw [← hW] at B3 R1c R2c T2c T3 ⊢
    clear hW f1 f2 f3 F1c F2c F3
    go_loopw [12] (fun i wr => ∃ (a n : Nat), a ≤ k.length ∧ i = .int .i64 a ∧ Hid (wr = W3.drewN n) ∧ Hid (∀ x ∈ k.take a, x ∉ l)) (fun i _ => k.length - (intOf i).toNat)
    case atStart => exact ⟨0, 0, Nat.zero_le _, rfl, Lib.hid rfl, Lib.hid (fun x hx => by simp at hx)⟩
    case round =>
      obtain ⟨a, n, ha, rfl, hw, hN⟩ := hrel
      obtain rfl := hw.out
      clear hw
      have B4 : Hid (Below w.heap.size w (W3.drewN n)) := Lib.hid (below_drewN B3.out n)
      have T4 : Hid (Sts (W3.drewN n) pk k) := Lib.hid (sts_drew T2c.out n)
      have b7 : (0 : Int) ≤ (a : Int) := by omega
      by_cases hlt : a < k.length
      · have b8 : (a : Int) < (k.length : Int) := by omega
        obtain ⟨bk, ok, rfl, hbk, hck⟩ := T4.out.cell hlt
        have HX := Lib.hid (List.take_succ_eq_append_getElem hlt)
        obtain ⟨u, hu⟩ : ∃ u, u = k[a] := ⟨_, rfl⟩
        rw [← hu] at hck HX
        clear hu
        go_wp2_with fail
        go_loopw [13] (fun i wq => ∃ (b m : Nat), b ≤ l.length ∧ i = .int .i64 b ∧ Hid (wq = W3.drewN m) ∧ Hid (u ∉ l.take b)) (fun i _ => l.length - (intOf i).toNat)
        case atStart => exact ⟨0, n, Nat.zero_le _, rfl, Lib.hid rfl, Lib.hid (by simp)⟩
        case round =>
          obtain ⟨b, m, hb, rfl, hw2, hN2⟩ := hrel
          have B5 : Hid (Below w.heap.size w wr) := Lib.hid (by rw [hw2.out]; exact below_drewN B3.out m)
          replace hck : wr.cell? ⟨bk, ok + a, none⟩ = some (.string u) := by rw [hw2.out]; exact hck
          have b9 : (0 : Int) ≤ (b : Int) := by omega
          by_cases hlb : b < l.length
          · have b10 : (b : Int) < (l.length : Int) := by omega
            have T5 : Hid (Sts wr pl l) := Lib.hid (by rw [hw2.out]; exact sts_drew T3.out m)
            obtain ⟨bl, ol, rfl, hbl, hcl⟩ := T5.out.cell hlb
            have HY := Lib.hid (List.take_succ_eq_append_getElem hlb)
            obtain ⟨v, hv⟩ : ∃ u, u = l[b] := ⟨_, rfl⟩
            rw [← hv] at hcl HY
            clear hv
            by_cases he : u = v
            · have g1 := tl_true he
              have E := Lib.hid he
              clear he
              go_wp2_with fail
              go_quiet (fail)
              go_wp2_with fail
              refine (split_any _).mono ?_
              rintro e w5 ⟨rfl, hb5⟩
              have B6 := Lib.hid (up_call (below_drewN B5.out _) hb5)
              clear hb5
              go_wp2_with fail
              go_ret
              exact ⟨rfl, B6.out⟩
            · have g1 := tl_false he
              have E : Hid (u ∉ l.take (b + 1)) := Lib.hid (by rw [HY.out, List.mem_append, List.mem_singleton]; exact fun h => h.elim hN2.out he)
              clear he
              go_wp2_with fail
              go_quiet (fail)
              go_wp2_with fail
              go_roundw
              case rel => exact ⟨b + 1, _, hlb, by go_num, Lib.hid (by rw [hw2.out, World.drewN_drewN]), E⟩
              case measure => first | (simp [intOf]; done) | (simp [intOf]; omega)
          · obtain rfl : b = l.length := by omega
            have E : Hid (∀ x ∈ k.take (a + 1), x ∉ l) := Lib.hid (by
              have := hN2.out
              rw [List.take_length] at this
              rw [HX.out]
              intro x hx
              rcases List.mem_append.1 hx with hx | hx
              · exact hN.out x hx
              · rw [List.mem_singleton.1 hx]; exact this)
            go_wp2_with fail
            go_roundw
            case rel => exact ⟨a + 1, m, hlt, by go_num, hw2, E⟩
            case measure => first | (simp [intOf]; done) | (simp [intOf]; omega)
      · obtain rfl : a = k.length := by omega
        have E := KN.out (by have := hN.out; rw [List.take_length] at this; exact this)
        rw [E] at K1 K2
        go_wp2_with fail
        refine (K1 _ (R1c.out.drewN n)).mono ?_
        rintro e w5 ⟨rfl, n5, hw5⟩
        have W5 := Lib.hid hw5
        clear hw5
        go_wp2_with fail
        refine (K2 w5 (by rw [W5.out]; exact (R2c.out.drewN n).drewN n5)).mono ?_
        rintro e w6 ⟨rfl, n6, hw6⟩
        have B6 : Hid (Below w.heap.size w w6) := Lib.hid (by rw [hw6, W5.out]; exact below_drewN (below_drewN B4.out n5) n6)
        clear hw6 W5
        go_wp2_with fail
        refine (split_any _).mono ?_
        rintro e w7 ⟨rfl, hb7⟩
        have B7 := Lib.hid (up_call B6.out hb7)
        clear hb7
        go_wp2_with fail
        go_ret
        exact ⟨rfl, B7.out⟩
  · have f1 := F1c.out.c0
    have f2 := F2c.out.c0
    have f3 := F3.out.c0
    have g0 : (Wd.hc s t == 0) = false := by rw [beq_eq_false_iff_ne]; exact fun e => hz (hc_zero.1 e)
    have g1 : ¬ Wd.hc s t = 0 := fun e => hz (hc_zero.1 e)
    have H1 := Lib.hid hz
    clear hz
    go_wp2_with fail
    refine (split_any _).mono ?_
    rintro e w5 ⟨rfl, hb5⟩
    have B5 := Lib.hid (up_call B3.out hb5)
    clear hb5
    go_wp2_with fail
    go_ret
    exact ⟨rfl, B5.out⟩
end Go.Proofs.Ytkfloglpihbdjaa
