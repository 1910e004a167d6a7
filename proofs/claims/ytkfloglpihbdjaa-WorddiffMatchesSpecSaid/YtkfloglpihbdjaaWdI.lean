
/-
  The reference's tokens of a line, walked.
-/
import Derived.Test.YtkfloglpihbdjaaWdH
namespace Go.Proofs.Ytkfloglpihbdjaa
open Go.RowKit
set_option maxRecDepth 4000

def szOf : Value → Nat
  | .string s => s.size
  | _ => 0
theorem tk_head (r : ByteArray) (a : Nat) (h1 : 1 ≤ a) (h2 : a ≤ r.size) (hr : ∀ j (_h : j < r.size), j < a → Wd.kd r[j].toNat = Wd.kd (r[0]'(by omega)).toNat) (hz : 1 < a → Wd.kd (r[0]'(by omega)).toNat ≠ 0)
    (hs : ∀ _h : a < r.size, ¬ (Wd.kd (r[0]'(by omega)).toNat ≠ 0 ∧ Wd.kd r[a].toNat = Wd.kd (r[0]'(by omega)).toNat)) : Wd.tk r = r.extract 0 a :: Wd.tk (r.extract a r.size) := by
  have hd := Wd.dl r
  have e : a - 1 + 1 = a := by omega
  have := Wd.tkn_cut r.data.toList 0 (a - 1) (Nat.zero_le _) (by omega) (fun k hk _ => ?_) (fun h => ?_)
  · rw [List.drop_zero, e, Nat.sub_zero] at this
    unfold Wd.tk
    rw [this, List.map_cons, ext_mk, ext_mk, Lin.mk_data, List.drop_zero, Nat.sub_zero]
    congr 3
    rw [List.take_of_length_le (by rw [List.length_drop, hd]; exact Nat.le_refl _)]
  · rw [dat_get r k (by omega), dat_get r (k + 1) (by omega)]
    have k1 := hr k (by omega) (by omega)
    have k2 := hr (k + 1) (by omega) (by omega)
    have k3 := hz (by omega)
    unfold Wd.tog
    rw [decide_eq_true (by rw [k1]; exact k3), decide_eq_true (by rw [k1, k2])]; rfl
  · have hlt : a < r.size := by omega
    rw [dat_get r (a - 1) (by omega), dat_get r (a - 1 + 1) (by omega)]
    have k1 := hr (a - 1) (by omega) (by omega)
    have k2 := hs hlt
    unfold Wd.tog
    by_cases q : Wd.kd (r[0]'(by omega)).toNat = 0
    · rw [decide_eq_false (by rw [k1]; exact fun h => h q)]; rfl
    · rw [decide_eq_false (show ¬ Wd.kd r[a - 1].toNat = Wd.kd r[a - 1 + 1].toNat by rw [k1]; intro h; exact k2 ⟨q, by rw [h]; congr 3; omega⟩), Bool.and_false]
/-- what is left of the line -/
structure RAt (s r : ByteArray) (out : List ByteArray) : Prop where
  eq : out ++ Wd.tk r = Wd.tk s
  len : out.length + r.size ≤ s.size
theorem RAt.next {s r : ByteArray} {out : List ByteArray} (h : RAt s r out) (a : Nat) (h1 : 1 ≤ a) (h2 : a ≤ r.size) (e : Wd.tk r = r.extract 0 a :: Wd.tk (r.extract a r.size)) : RAt s (r.extract a r.size) (out ++ [r.extract 0 a]) := by
  have := h.len
  refine ⟨by rw [← h.eq, e, List.append_assoc]; rfl, ?_⟩
  rw [List.length_append, List.length_singleton, ext_mk, Lin.mk_size, List.length_take, List.length_drop, Wd.dl]; omega
theorem ext_less (r : ByteArray) (a : Nat) (h1 : 1 ≤ a) (h2 : a ≤ r.size) : (r.extract a r.size).size < r.size := by
  rw [ext_mk, Lin.mk_size, List.length_take, List.length_drop, Wd.dl]; omega
theorem rat_start (r : ByteArray) (hlt : 0 < r.size) : (∀ j (_h : j < r.size), j < 1 → Wd.kd r[j].toNat = Wd.kd (r[0]'hlt).toNat) ∧ (1 < 1 → Wd.kd (r[0]'hlt).toNat ≠ 0) :=
  ⟨fun j _ hj => (by obtain rfl : j = 0 := by omega
                     rfl), fun h => by omega⟩
theorem rat_on (r : ByteArray) (hlt : 0 < r.size) (a : Nat) (hla : a < r.size) (h : (∀ j (_h : j < r.size), j < a → Wd.kd r[j].toNat = Wd.kd (r[0]'hlt).toNat) ∧ (1 < a → Wd.kd (r[0]'hlt).toNat ≠ 0)) (hg : Wd.kd (r[0]'hlt).toNat ≠ 0 ∧ Wd.kd r[a].toNat = Wd.kd (r[0]'hlt).toNat) :
    (∀ j (_h : j < r.size), j < a + 1 → Wd.kd r[j].toNat = Wd.kd (r[0]'hlt).toNat) ∧ (1 < a + 1 → Wd.kd (r[0]'hlt).toNat ≠ 0) := by
  refine ⟨fun j hj hja => ?_, fun _ => hg.1⟩
  by_cases e : j = a
  · subst e; exact hg.2
  · exact h.1 j hj (by omega)
def OsPost (l : List ByteArray) (w : World) (e : Ending) (w' : World) : Prop := ∃ v, e = .returned v ∧ OwnS w.heap.size w' v l ∧ Below w.heap.size w w'

set_option maxRecDepth 100000 in
set_option maxHeartbeats 1500000 in
theorem refTokens_any (s : ByteArray) (w : World) (hs : s.size ≤ 1000000) : Calls Try.prog 14 #[.string s] w (OsPost (Wd.tk s) w) := by
  go_enter Try.func14, Try.ntmps14
  go_wp2_with fail
  go_loopw [0, 3] (fun q o wr => ∃ (r : ByteArray) (out : List ByteArray), q = .string r ∧ Hid (OwnS w.heap.size wr o out) ∧ Hid (RAt s r out) ∧ Hid (Below w.heap.size w wr)) (fun q _ _ => szOf q)
  case atStart => exact ⟨s, [], rfl, Lib.hid (ownS_none _ _), Lib.hid ⟨rfl, by simp⟩, Lib.hid (Below.refl _ _)⟩
  case round =>
    obtain ⟨r, out, rfl, own, hR, hB⟩ := hrel
    have hlen := hR.out.len
    obtain ⟨V, hV⟩ : ∃ V, V = wr := ⟨_, rfl⟩
    rw [← hV] at own hB ⊢
    have hzr := hB.out.size
    clear hV
    by_cases hlt : 0 < r.size
    · have g0 : decide (0 < r.size) = true := decide_eq_true hlt
      have z0 : (0 : Int) < (r.size : Int) := by omega
      go_wp2_with fail
      go_loopw [4] (fun i wq => ∃ (a m : Nat), 1 ≤ a ∧ a ≤ r.size ∧ i = .int .i64 a ∧ Hid (wq = V.drewN m) ∧ Hid ((∀ j (_h : j < r.size), j < a → Wd.kd r[j].toNat = Wd.kd (r[0]'hlt).toNat) ∧ (1 < a → Wd.kd (r[0]'hlt).toNat ≠ 0))) (fun i _ => r.size - (intOf i).toNat)
      case atStart => exact ⟨1, 0, Nat.le_refl _, hlt, rfl, Lib.hid rfl, Lib.hid (rat_start r hlt)⟩
      case round =>
        obtain ⟨a, m, h1, h2, rfl, hw, hK⟩ := hrel
        have ownQ : Hid (OwnS w.heap.size wr u3 out) := Lib.hid (by rw [hw.out]; exact own.out)
        have BQ : Hid (Below w.heap.size w wr) := Lib.hid (by rw [hw.out]; exact below_drewN hB.out m)
        have b7 : (0 : Int) ≤ (a : Int) := by omega
        have ba : (a : Int) ≤ (r.size : Int) := by omega
        have x1 := ext_sz r 0 a h2
        by_cases hla : a < r.size
        · have b8 : (a : Int) < (r.size : Int) := by omega
          have g1 : decide (a < r.size) = true := decide_eq_true hla
          have K0 := fun w => refKind_any (r[0]'hlt).toNat w
          have K1 := fun w => refKind_any r[a].toNat w
          by_cases hgo : Wd.kd (r[0]'hlt).toNat ≠ 0 ∧ Wd.kd r[a].toNat = Wd.kd (r[0]'hlt).toNat
          · have RO := Lib.hid (rat_on r hlt a hla hK.out hgo)
            have h3 : Wd.kd (r[0]'hlt).toNat = 1 ∨ Wd.kd (r[0]'hlt).toNat = 2 := by have := kd_bd (r[0]'hlt).toNat; omega
            unfold rkd at K0 K1
            rw [hgo.2] at K1
            clear hgo
            rcases h3 with h3 | h3
            all_goals
              rw [h3] at K0 K1
              have H3 := Lib.hid h3
              clear h3
              go_wp2_with fail
              go_quiet ((go_at_call 26; first | (with_reducible exact quiet_one (K0 _)) | (with_reducible exact quiet_one (K1 _))))
              go_wp2_with fail
              go_roundw
              case rel => exact ⟨a + 1, _, by omega, hla, by go_num, Lib.hid (by rw [hw.out, World.drewN_drewN]), RO⟩
              case measure => first | (simp [intOf]; done) | (simp [intOf]; omega)
          · have E := Lib.hid (tk_head r a h1 h2 hK.out.1 hK.out.2 (fun _ => hgo))
            have R := Lib.hid (hR.out.next a h1 h2 E.out)
            have L := Lib.hid (ext_less r a h1 h2)
            have k0 := kd_bd (r[0]'hlt).toNat
            have k1 := kd_bd r[a].toNat
            unfold rkd at K0 K1
            have h3 : Wd.kd (r[0]'hlt).toNat = 0 ∨ (Wd.kd (r[0]'hlt).toNat = 1 ∧ Wd.kd r[a].toNat = 0) ∨ (Wd.kd (r[0]'hlt).toNat = 1 ∧ Wd.kd r[a].toNat = 2) ∨ (Wd.kd (r[0]'hlt).toNat = 2 ∧ Wd.kd r[a].toNat = 0) ∨ (Wd.kd (r[0]'hlt).toNat = 2 ∧ Wd.kd r[a].toNat = 1) := by
              have : ¬ (Wd.kd (r[0]'hlt).toNat ≠ 0 ∧ Wd.kd r[a].toNat = Wd.kd (r[0]'hlt).toNat) := hgo
              omega
            clear hgo k0 k1
            rcases h3 with h3 | h3 | h3 | h3 | h3
            case' inl => rw [h3] at K0
            case' inr.inl => rw [h3.1] at K0; rw [h3.2] at K1
            case' inr.inr.inl => rw [h3.1] at K0; rw [h3.2] at K1
            case' inr.inr.inr.inl => rw [h3.1] at K0; rw [h3.2] at K1
            case' inr.inr.inr.inr => rw [h3.1] at K0; rw [h3.2] at K1
            all_goals
              have H3 := Lib.hid h3
              clear h3
              go_wp2_with fail
              go_quiet ((go_at_call 26; first | (with_reducible exact quiet_one (K0 _)) | (with_reducible exact quiet_one (K1 _))))
              go_wp2_with (at_builtin; refine wp_appS rfl (.tmp 30) (.tmp 34) rfl w.heap.size _ out [r.extract 0 a] _ _ rfl (World.ownsRow.alloc ownQ.out _) rfl (sts_one _ _ _ rfl (by omega)) (fun h => by cases h) (by simp; omega) (by have := BQ.out.size; simp; omega) ?_; intro v2 w2 own2 bel2)
              go_roundw
              case rel => exact ⟨_, _, rfl, Lib.hid own2, R, Lib.hid (up_own (up_alloc (below_drewN BQ.out _) _) bel2)⟩
              case measure => exact L.out
        · have E := Lib.hid (tk_head r a h1 h2 hK.out.1 hK.out.2 (fun h => (hla h).elim))
          have R := Lib.hid (hR.out.next a h1 h2 E.out)
          have L := Lib.hid (ext_less r a h1 h2)
          have HL := Lib.hid hla
          have g1 : decide (a < r.size) = false := decide_eq_false hla
          clear hla
          go_wp2_with fail
          go_quiet (fail)
          go_wp2_with (at_builtin; refine wp_appS rfl (.tmp 30) (.tmp 34) rfl w.heap.size _ out [r.extract 0 a] _ _ rfl (World.ownsRow.alloc ownQ.out _) rfl (sts_one _ _ _ rfl (by omega)) (fun h => by cases h) (by simp; omega) (by have := BQ.out.size; simp; omega) ?_; intro v2 w2 own2 bel2)
          go_roundw
          case rel => exact ⟨_, _, rfl, Lib.hid own2, R, Lib.hid (up_own (up_alloc (below_drewN BQ.out _) _) bel2)⟩
          case measure => exact L.out
    · have e0 : r.size = 0 := by omega
      have E : Hid (out = Wd.tk s) := Lib.hid (by
        have := hR.out.eq
        have q : Wd.tk r = [] := List.length_eq_zero_iff.1 (by have := Wd.tk_len r; omega)
        rw [q, List.append_nil] at this; exact this)
      have g0 : decide (0 < r.size) = false := decide_eq_false hlt
      go_wp2_with fail
      go_ret
      exact ⟨_, rfl, by rw [← E.out]; exact own.out, hB.out⟩
end Go.Proofs.Ytkfloglpihbdjaa
