
/-
  The reference's ranges of marked bytes, walked.
-/
import Derived.Test.YtkfloglpihbdjaaWdH
import Derived.Laws.OwnMore
namespace Go.Proofs.Ytkfloglpihbdjaa
open Go.RowKit
set_option maxRecDepth 4000

def boE : Enc Bool where
  ty := 4
  sl := 57
  size := 1
  bytes := 1
  z := .bool false
  enc b := [.bool b]
  len _ := rfl
  one _ u h := by rw [List.mem_singleton.1 h]; rfl
  pos := by decide
  zs := rfl
  und := Try.underlying57
  inf := by kernel_rfl
theorem bo_one (w : World) (H : Nat) (hH : w.heap.size = H) (b : Bool) (t : TypeId) (k : Nat) (u : Value) (h : (boE.enc b)[k]? = some u) : (w.alloc (.cells #[.bool b] t (0, 0))).cell? ((⟨H, 0, none⟩ : Addr).add k) = some u := by
  subst hH
  rw [add_at, Nat.zero_add, World.cell?_alloc_mark]
  simp only [boE] at h
  match k, h with
  | 0, h => simpa using h
theorem bo_cell {w : World} {p : Option Addr} {l : List Bool} (h : Row boE w p l) {i : Nat} (hi : i < l.length) : ∃ b off, p = some ⟨b, off, none⟩ ∧ b < w.heap.size ∧ w.cell? ⟨b, off + i, none⟩ = some (.bool l[i]) := by
  obtain ⟨b, off, h1, h2, h3⟩ := h.cell hi
  exact ⟨b, off, h1, h2, by have := h3 0 _ rfl; simpa [boE] using this⟩
/-- the last pair's end is written in place -/
theorem flat_set (L : List (Nat × Nat)) (x y z : Nat) : ((L ++ [(x, y)]).flatMap prE.enc).set (L.length * 2 + 1) (.int .i64 (z : Int)) = (L ++ [(x, z)]).flatMap prE.enc := by
  have h := flat_len prE L
  rw [show prE.size = 2 from rfl] at h
  rw [List.flatMap_append, List.flatMap_append, List.set_append, if_neg (by omega), h, show L.length * 2 + 1 - L.length * 2 = 1 by omega]
  rfl
theorem own_put {base : Nat} {w : World} {g n cap x y : Nat} {L : List (Nat × Nat)} (h : OwnE prE base w (.slice (some ⟨g, 0, none⟩) n cap) (L ++ [(x, y)])) (hn : n = L.length + 1) (z : Nat) :
    OwnE prE base (w.setCell ⟨g, L.length * 2 + 1, none⟩ (.int .i64 (z : Int))) (.slice (some ⟨g, 0, none⟩) n cap) (L ++ [(x, z)]) := by
  have e : (L ++ [(x, y)]).length = n := by rw [List.length_append, hn]; rfl
  have e' : (L ++ [(x, z)]).length = n := by rw [List.length_append, hn]; rfl
  unfold OwnE at h ⊢
  rw [e] at h
  rw [e', ← flat_set L x y z]
  exact (World.ownsRow.stored h _ _).1
theorem own_last {base : Nat} {w : World} {g n cap x y : Nat} {L : List (Nat × Nat)} (h : OwnE prE base w (.slice (some ⟨g, 0, none⟩) n cap) (L ++ [(x, y)])) (hn : n = L.length + 1) :
    base ≤ g ∧ w.cell? ⟨g, L.length * 2 + 1, none⟩ = some (.int .i64 (y : Int)) ∧ w.frozen? ⟨g, L.length * 2 + 1, none⟩ = false := by
  have e : (L ++ [(x, y)]).length = n := by rw [List.length_append, hn]; rfl
  have hb := own_block h g rfl
  obtain ⟨p, c, e2, row, -, -, -⟩ := row_of_own h
  obtain ⟨b, off, rfl, hb2, c0, c1⟩ := pr_cell row (i := L.length) (by rw [List.length_append]; simp)
  cases e2
  refine ⟨hb.1, by simpa using c1, ?_⟩
  unfold OwnE at h
  rw [e] at h
  exact World.ownsRow.frozenAt h _
theorem take_bit {l : List Bool} {k : Nat} (h : k < l.length) : l.take (k + 1) = l.take k ++ [l[k]] := List.take_succ_eq_append_getElem h
theorem last_bit {l : List Bool} {k : Nat} (h : k < l.length) : (l.take (k + 1)).getLast?.getD false = l[k] := by rw [take_bit h, List.getLast?_append]; simp

set_option maxRecDepth 100000 in
set_option maxHeartbeats 8000000 in
theorem refRanges_any (p : Option Addr) (l : List Bool) (n cap : Nat) (w : World) (hn : n = l.length) (hp : Row boE w p l) (hl : l.length ≤ 1000000) :
    Calls Try.prog 28 #[.slice p n cap] w (PrPost (Wd.rb l).full w) := by
  subst hn
  have HP := Lib.hid hp
  clear hp
  go_enter Try.func28, Try.ntmps28
  go_wp2_with fail
  go_loopw [3, 4] (fun o i wr => ∃ k : Nat, k ≤ l.length ∧ i = .int .i64 k ∧ Hid (OwnE prE w.heap.size wr o (Wd.rb (l.take k)).full) ∧ Hid (Below w.heap.size w wr)) (fun _ i _ => l.length - (intOf i).toNat)
  case atStart => exact ⟨0, Nat.zero_le _, rfl, Lib.hid (ownE_nil _ _ _), Lib.hid (Below.refl _ _)⟩
  case round =>
    obtain ⟨k, hk, rfl, own, hB⟩ := hrel
    have hzr := hB.out.size
    have b7 : (0 : Int) ≤ (k : Int) := by omega
    have hfl := Wd.rb_full_len (l.take k)
    rw [List.length_take] at hfl
    by_cases hlt : k < l.length
    · have b8 : (k : Int) < (l.length : Int) := by omega
      obtain ⟨b, off, rfl, hb, hc⟩ := bo_cell HP.out hlt
      replace hc := (hB.out.cell (p := ⟨b, off + k, none⟩) hb).trans hc
      have TK := take_bit hlt
      cases hbit : l[k] with
      | false =>
        rw [hbit] at hc TK
        have E := Lib.hid (show (Wd.rb (l.take (k + 1))).full = (Wd.rb (l.take k)).full by rw [TK, Wd.rb_off])
        clear TK hbit
        go_wp2_with fail
        go_roundw
        case rel => exact ⟨k + 1, hlt, by go_num, Lib.hid (by rw [E.out]; exact own.out), hB⟩
        case measure => first | (simp [intOf]; done) | (simp [intOf]; omega)
      | true =>
        rw [hbit] at hc TK
        have hlk : (l.take k).length = k := by rw [List.length_take]; omega
        by_cases hst : (l.take k).getLast?.getD false = false
        · have E := Wd.rb_new (l.take k) hst
          rw [← TK, hlk] at E
          obtain ⟨L, hL⟩ : ∃ L, L = (Wd.rb (l.take k)).full := ⟨_, rfl⟩
          rw [← hL] at own E hfl
          have EE := Lib.hid E
          clear E TK hL
          have hor : k = 0 ∨ ∃ j, k = j + 1 ∧ ∃ h : j < l.length, l[j] = false := by
            cases k with
            | zero => exact .inl rfl
            | succ j => exact .inr ⟨j, rfl, by omega, by rw [← last_bit (by omega)]; exact hst⟩
          have hmk : L.length ≤ k := by omega
          rcases hor with rfl | ⟨j, hkj, hj, hlj⟩
          case' inl =>
            have hc' : wr.cell? ⟨b, off, none⟩ = some (.bool true) := hc
            clear hc
          case' inr =>
            have g1 : ((k : Int) == 0) = false := by rw [beq_eq_false_iff_ne]; omega
            have g2 : ¬ k = 0 := by omega
            have e1 : (k : Int) - 1 = (j : Int) := by omega
            have b9 : (0 : Int) ≤ (j : Int) := by omega
            have b10 : (j : Int) < (l.length : Int) := by omega
            obtain ⟨b', off', e, hb', hc'⟩ := bo_cell HP.out hj
            cases e
            rw [hlj] at hc'
            replace hc' := (hB.out.cell (p := ⟨b, off + j, none⟩) hb').trans hc'
            have HK := Lib.hid hkj
            clear hkj
          all_goals
            go_wp2_with (at_builtin; refine wp_appE prE rfl (.tmp 26) (.tmp 30) rfl w.heap.size _ L (_, _) _ _ rfl (own.out.alloc _) rfl (pr_one _ _ rfl _ _ _ _ rfl rfl _) (by simp [prE]; omega) (by omega) (by simp; omega) ?_; intro v2 w2 own2 bel2; obtain ⟨g, cg, rfl⟩ := own_succ own2 rfl; obtain ⟨hg, d0, d1⟩ := own_last own2 rfl; have OO := Lib.hid (own_put own2 rfl); have BB := Lib.hid (fun (u : Value) => (up_own (up_alloc hB.out _) bel2).setCell (p := ⟨g, L.length * 2 + 1, none⟩) hg u); clear own2 bel2)
            go_roundw
            case rel => exact ⟨_, hlt, by go_num, Lib.hid (by rw [EE.out]; exact OO.out _), Lib.hid (BB.out _)⟩
            case measure => first | (simp [intOf]; done) | (simp [intOf]; omega)
        · have hst' : (l.take k).getLast?.getD false = true := by simpa using hst
          obtain ⟨L, a, E1, E2⟩ := Wd.rb_on (l.take k) hst'
          rw [← TK, hlk] at E2
          rw [hlk] at E1
          rw [E1] at own hfl
          rw [List.length_append] at hfl
          have EE := Lib.hid E2
          have hor : ∃ j, k = j + 1 ∧ ∃ h : j < l.length, l[j] = true := by
            cases k with
            | zero => simp at hst'
            | succ j => exact ⟨j, rfl, by omega, by rw [← last_bit (by omega)]; exact hst'⟩
          obtain ⟨j, hkj, hj, hlj⟩ := hor
          have g1 : ((k : Int) == 0) = false := by rw [beq_eq_false_iff_ne]; omega
          have g2 : ¬ k = 0 := by omega
          have e1 : (k : Int) - 1 = (j : Int) := by omega
          have b9 : (0 : Int) ≤ (j : Int) := by omega
          have b10 : (j : Int) < (l.length : Int) := by omega
          obtain ⟨b', off', e, hb', hc'⟩ := bo_cell HP.out hj
          cases e
          rw [hlj] at hc'
          replace hc' := (hB.out.cell (p := ⟨b, off + j, none⟩) hb').trans hc'
          have HK := Lib.hid hkj
          obtain ⟨g, cg, rfl⟩ := own_succ own.out rfl
          obtain ⟨hg, d0, d1⟩ := own_last own.out rfl
          have OO := Lib.hid (own_put own.out rfl)
          have BB := Lib.hid (fun (u : Value) => hB.out.setCell (p := ⟨g, L.length * 2 + 1, none⟩) hg u)
          have hmk : L.length ≤ k := by omega
          clear hkj own E1 E2 hst hst' TK
          go_wp2_with fail
          go_roundw
          case rel => exact ⟨k + 1, hlt, by go_num, Lib.hid (by rw [EE.out]; exact OO.out _), Lib.hid (BB.out _)⟩
          case measure => first | (simp [intOf]; done) | (simp [intOf]; omega)
    · obtain rfl : k = l.length := by omega
      have OO := Lib.hid own.out
      rw [List.take_length] at OO
      go_wp2_with fail
      go_ret
      exact ⟨_, rfl, OO.out, hB.out⟩
end Go.Proofs.Ytkfloglpihbdjaa
