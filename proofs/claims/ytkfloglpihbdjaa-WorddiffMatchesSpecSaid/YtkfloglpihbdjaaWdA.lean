
/-
  The program's kinds of bytes and tokens of a line, walked.
-/
import Derived.Test.YtkfloglpihbdjaaWdM
namespace Go.Proofs.Ytkfloglpihbdjaa
open Go.RowKit
set_option maxRecDepth 4000

theorem kd_word {n : Nat} (h : (97 ≤ n ∧ n ≤ 122) ∨ (65 ≤ n ∧ n ≤ 90) ∨ (48 ≤ n ∧ n ≤ 57) ∨ n = 95 ∨ 128 ≤ n) : Wd.kd n = 2 := if_pos h
theorem kd_blank {n : Nat} (h : n = 32 ∨ n = 9) : Wd.kd n = 1 := by unfold Wd.kd; rw [if_neg (by omega), if_pos h]
theorem kd_other {n : Nat} (h : ¬ ((97 ≤ n ∧ n ≤ 122) ∨ (65 ≤ n ∧ n ≤ 90) ∨ (48 ≤ n ∧ n ≤ 57) ∨ n = 95 ∨ 128 ≤ n)) (h' : ¬ (n = 32 ∨ n = 9)) : Wd.kd n = 0 := by unfold Wd.kd; rw [if_neg h, if_neg h']
theorem kd_bd (n : Nat) : Wd.kd n ≤ 2 := by unfold Wd.kd; split <;> (try split) <;> omega

set_option maxHeartbeats 4000000 in
theorem kindOf_any (n : Nat) (w : World) : Calls Try.prog 33 #[.int .u8 (n : Int)] w fun e w' => e = .returned (.int .i64 (Wd.kd n : Nat)) ∧ w' = w := by
  have h : (97 ≤ n ∧ n ≤ 122) ∨ (65 ≤ n ∧ n ≤ 90) ∨ (48 ≤ n ∧ n ≤ 57) ∨ n = 95 ∨ 128 ≤ n ∨ n = 32 ∨ n = 9 ∨
      (n < 48 ∧ n ≠ 32 ∧ n ≠ 9) ∨ (57 < n ∧ n < 65) ∨ (90 < n ∧ n < 97 ∧ n ≠ 95) ∨ (122 < n ∧ n < 128) := by omega
  rcases h with h | h | h | h | h | h | h | h | h | h | h
  case' inl => have E := Lib.hid (kd_word (n := n) (by omega))
  case' inr.inl => have E := Lib.hid (kd_word (n := n) (by omega))
  case' inr.inr.inl => have E := Lib.hid (kd_word (n := n) (by omega))
  case' inr.inr.inr.inl => have E := Lib.hid (kd_word (n := n) (by omega))
  case' inr.inr.inr.inr.inl => have E := Lib.hid (kd_word (n := n) (by omega))
  case' inr.inr.inr.inr.inr.inl => have E := Lib.hid (kd_blank (n := n) (by omega))
  case' inr.inr.inr.inr.inr.inr.inl => have E := Lib.hid (kd_blank (n := n) (by omega))
  case' inr.inr.inr.inr.inr.inr.inr.inl => have E := Lib.hid (kd_other (n := n) (by omega) (by omega))
  case' inr.inr.inr.inr.inr.inr.inr.inr.inl => have E := Lib.hid (kd_other (n := n) (by omega) (by omega))
  case' inr.inr.inr.inr.inr.inr.inr.inr.inr.inl => have E := Lib.hid (kd_other (n := n) (by omega) (by omega))
  case' inr.inr.inr.inr.inr.inr.inr.inr.inr.inr => have E := Lib.hid (kd_other (n := n) (by omega) (by omega))
  all_goals
    first | (have g1 : decide ((97 : Int) ≤ (n : Int)) = true := by rw [decide_eq_true_iff]; omega) | (have g1 : decide ((97 : Int) ≤ (n : Int)) = false := by rw [decide_eq_false_iff_not]; omega)
    first | (have g2 : decide ((n : Int) ≤ 122) = true := by rw [decide_eq_true_iff]; omega) | (have g2 : decide ((n : Int) ≤ 122) = false := by rw [decide_eq_false_iff_not]; omega)
    first | (have g3 : decide ((65 : Int) ≤ (n : Int)) = true := by rw [decide_eq_true_iff]; omega) | (have g3 : decide ((65 : Int) ≤ (n : Int)) = false := by rw [decide_eq_false_iff_not]; omega)
    first | (have g4 : decide ((n : Int) ≤ 90) = true := by rw [decide_eq_true_iff]; omega) | (have g4 : decide ((n : Int) ≤ 90) = false := by rw [decide_eq_false_iff_not]; omega)
    first | (have g5 : decide ((48 : Int) ≤ (n : Int)) = true := by rw [decide_eq_true_iff]; omega) | (have g5 : decide ((48 : Int) ≤ (n : Int)) = false := by rw [decide_eq_false_iff_not]; omega)
    first | (have g6 : decide ((n : Int) ≤ 57) = true := by rw [decide_eq_true_iff]; omega) | (have g6 : decide ((n : Int) ≤ 57) = false := by rw [decide_eq_false_iff_not]; omega)
    first | (have g7 : ((n : Int) == 95) = true := by rw [beq_iff_eq]; omega) | (have g7 : ((n : Int) == 95) = false := by rw [beq_eq_false_iff_ne]; omega)
    first | (have g8 : decide ((128 : Int) ≤ (n : Int)) = true := by rw [decide_eq_true_iff]; omega) | (have g8 : decide ((128 : Int) ≤ (n : Int)) = false := by rw [decide_eq_false_iff_not]; omega)
    first | (have g9 : ((n : Int) == 32) = true := by rw [beq_iff_eq]; omega) | (have g9 : ((n : Int) == 32) = false := by rw [beq_eq_false_iff_ne]; omega)
    first | (have g10 : ((n : Int) == 9) = true := by rw [beq_iff_eq]; omega) | (have g10 : ((n : Int) == 9) = false := by rw [beq_eq_false_iff_ne]; omega)
    clear h
    go_enter Try.func33, Try.ntmps33
    go_wp2_with fail
    go_returns
    exact ⟨by rw [E.out]; rfl, rfl⟩

/-- two bytes that follow each other -/
def tg (a b : Nat) : Bool := decide (Wd.kd a ≠ 0) && decide (Wd.kd a = Wd.kd b)
theorem tog_tg (a b : UInt8) : Wd.tog a b = tg a.toNat b.toNat := rfl
set_option maxHeartbeats 4000000 in
theorem wtogether_any (a b : Nat) (w : World) : Calls Try.prog 21 #[.int .u8 (a : Int), .int .u8 (b : Int)] w (QPost (.bool (tg a b)) w) := by
  have K1 := fun w => kindOf_any a w
  have K2 := fun w => kindOf_any b w
  have ha : Wd.kd a = 0 ∨ Wd.kd a = 1 ∨ Wd.kd a = 2 := by have := kd_bd a; omega
  have hb : Wd.kd b = 0 ∨ Wd.kd b = 1 ∨ Wd.kd b = 2 := by have := kd_bd b; omega
  rcases ha with ha | ha | ha <;> rcases hb with hb | hb | hb
  all_goals
    rw [ha] at K1
    rw [hb] at K2
    have HA := Lib.hid ha
    have HB := Lib.hid hb
    clear ha hb
    go_enter Try.func21, Try.ntmps21
    go_wp2_with fail
    refine (K1 _).mono ?_
    rintro e w1 ⟨rfl, rfl⟩
    go_wp2_with fail
    try
      refine (K2 _).mono ?_
      rintro e w1 ⟨rfl, rfl⟩
      go_wp2_with fail
    go_returns
    exact ⟨by unfold tg; rw [HA.out, HB.out]; rfl, 0, rfl⟩

theorem quiet_one {f : FuncId} {args : Array Value} {X : World} {a : Nat} {v : Value} (h : Calls Try.prog f args (X.drewN a) (QPost v (X.drewN a))) :
    Calls Try.prog f args (X.drewN a) fun e w'' => e = .returned v ∧ ∃ n, w'' = X.drewN n :=
  h.mono fun _ _ ⟨he, m, hm⟩ => ⟨he, a + m, by rw [hm, World.drewN_drewN]⟩
/-- the tokens on their way: byte k, a token begins at st -/
structure TAt (s : ByteArray) (k st : Nat) (out : List ByteArray) : Prop where
  le : st ≤ k
  ks : k ≤ s.size
  fin : k = s.size → st = s.size
  run : ∀ j (_h : j + 1 < s.size), j < k → st ≤ j → Wd.tog s[j] s[j + 1] = true
  eq : out ++ (Wd.tkn (s.data.toList.drop st)).map Lin.mk = Wd.tk s
  len : out.length ≤ k
theorem TAt.start (s : ByteArray) : TAt s 0 0 [] := ⟨Nat.le_refl _, Nat.zero_le _, fun h => h, fun j h h1 => by omega, rfl, Nat.le_refl _⟩
theorem dat_get (s : ByteArray) (j : Nat) (_h : j < s.size) (h' : j < s.data.toList.length) : s.data.toList[j] = s[j] := rfl
theorem ext_mk (s : ByteArray) (a b : Nat) : s.extract a b = Lin.mk ((s.data.toList.drop a).take (b - a)) := by
  rw [← Lin.mk_of (s.extract a b)]
  congr 1
  simp
theorem TAt.cut {s : ByteArray} {k st : Nat} {out : List ByteArray} (h : TAt s k st out) (hk : k < s.size) (he : ∀ _h : k + 1 < s.size, Wd.tog s[k] s[k + 1] = false) : TAt s (k + 1) (k + 1) (out ++ [s.extract st (k + 1)]) := by
  have hd := Wd.dl s
  refine ⟨Nat.le_refl _, hk, fun h => h, fun j _ h1 h2 => by omega, ?_, by have := h.len; rw [List.length_append]; simp; omega⟩
  have := Wd.tkn_cut s.data.toList st k h.le (by omega) (fun j hj hs => by rw [dat_get s j (by omega), dat_get s (j + 1) (by omega)]; exact h.run j (by omega) hj hs) (fun h1 => by rw [dat_get s k hk, dat_get s (k + 1) (by omega)]; exact he (by omega))
  rw [← h.eq, this, List.append_assoc, ext_mk]; rfl
theorem TAt.on {s : ByteArray} {k st : Nat} {out : List ByteArray} (h : TAt s k st out) (hk : k + 1 < s.size) (he : Wd.tog s[k] s[k + 1] = true) : TAt s (k + 1) st out := by
  refine ⟨by have := h.le; omega, by omega, fun e => by omega, fun j hj h1 h2 => ?_, h.eq, by have := h.len; omega⟩
  by_cases e : j = k
  · subst e; exact he
  · exact h.run j hj (by omega) h2
theorem TAt.done {s : ByteArray} {st : Nat} {out : List ByteArray} (h : TAt s s.size st out) : out = Wd.tk s := by
  have := h.eq
  rw [h.fin rfl, List.drop_eq_nil_of_le (by rw [Wd.dl]; exact Nat.le_refl _)] at this
  simpa [Wd.tkn] using this
theorem vC_one (s : ByteArray) : Lin.vC [s] = Lin.lc s := by
  unfold Lin.vC; rw [if_neg (by simp)]
  have := Lin.fb_drop [s] 0 (by simp)
  simp only [List.drop_zero, List.getElem_cons_zero] at this
  rw [this]
  by_cases h : Lin.lc s = 0
  · rw [if_pos h, Lin.fb_end _ _ (by simp), h]
  · rw [if_neg h]
theorem vI_one (s : ByteArray) : Lin.vI [s] = 0 := by
  unfold Lin.vI; rw [if_neg (by simp)]
  have := Lin.fb_drop [s] 0 (by simp)
  simp only [List.drop_zero, List.getElem_cons_zero] at this
  rw [this]
  by_cases h : Lin.lc s = 0
  · rw [if_pos h, Lin.fb_end _ _ (by simp)]
  · rw [if_neg h]; rfl
/-- the tokens of a line; of what is no line, none -/
def tL (s : ByteArray) : List ByteArray := if Lin.lc s = 0 then Wd.tk s else []
def TkPost (s : ByteArray) (w : World) (e : Ending) (w' : World) : Prop := ∃ v, e = .returned (.tuple #[v, .agg #[.int .i64 (Lin.lc s), .int .i64 0]]) ∧ OwnS w.heap.size w' v (tL s) ∧ Below w.heap.size w w'
theorem ownS_none (w : World) (base : Nat) : OwnS base w (.slice none 0 0) [] := World.ownsRow_nil _ _ _ _
theorem ext_sz (s : ByteArray) (a b : Nat) (h : b ≤ s.size) : (s.extract a b).size ≤ s.size := by
  rw [ext_mk, Lin.mk_size, List.length_take, List.length_drop, Wd.dl]; omega
theorem ownS_le {base base' : Nat} {w : World} {v : Value} {l : List ByteArray} (h : OwnS base w v l) (hb : base' ≤ base) : OwnS base' w v l := by
  obtain ⟨h1, h2 | ⟨g, cap, cur, h3, h4, h5⟩⟩ := h
  · exact ⟨h1, .inl h2⟩
  · exact ⟨h1, .inr ⟨g, cap, cur, h3, by omega, h5⟩⟩

set_option maxHeartbeats 4000000 in
theorem tokens_any (s : ByteArray) (w : World) (hs : s.size ≤ 140737488351232) : Calls Try.prog 8 #[.string s] w (TkPost s w) := by
  have ST := Lib.hid (sts_one (w.alloc (.cells #[.int .i64 0, .int .i64 0] 24 (0, 0))) _ s rfl hs)
  go_enter Try.func8, Try.ntmps8
  go_wp2_with fail
  have VA := validate_any _ [s] 1 1 _ rfl ST.out
  rw [vC_one, vI_one] at VA
  rw [World.size_alloc] at VA
  refine VA.mono ?_
  rintro e w1 ⟨rfl, hb1⟩
  have u0 := up_alloc (up_alloc (Below.refl w.heap.size w) (.cells #[.int .i64 0, .int .i64 0] 24 (0, 0))) (.cells #[.string s] 9 (0, 0))
  have u1 := up_call u0 hb1
  have FA := ((Flt.new w 0 0 24).alloc (.cells #[.string s] 9 (0, 0))).up hb1
  have HA := Lib.hid FA
  clear ST VA
  by_cases h1 : Lin.lc s = 0
  · have E : Hid (Lin.lc s = 0 ∧ tL s = Wd.tk s) := Lib.hid ⟨h1, if_pos h1⟩
    have hsz := (Lin.lc_zero h1).1
    rw [h1]
    clear h1
    obtain ⟨a0, a1, a2, a3, a4⟩ := FA
    have uA := Lib.hid (up_alloc u1 (.cells #[.int .i64 0, .int .i64 0] 24 (0, 0)))
    have FB := Lib.hid (HA.out.alloc (.cells #[.int .i64 0, .int .i64 0] 24 (0, 0)))
    go_wp2_with fail
    obtain ⟨W, hW⟩ : ∃ W, W = w1.alloc (.cells #[.int .i64 0, .int .i64 0] 24 (0, 0)) := ⟨_, rfl⟩
    rw [← hW] at uA FB ⊢
    clear hW a0 a1 a2 a3 a4 HA u1 u0 hb1
    go_loopw [5, 6, 18] (fun o f i wr => ∃ (k st : Nat) (out : List ByteArray), f = .int .i64 st ∧ i = .int .i64 k ∧ Hid (OwnS W.heap.size wr o out) ∧ Hid (TAt s k st out) ∧ Hid (Below W.heap.size W wr)) (fun _ _ i _ => s.size - (intOf i).toNat)
    case atStart => exact ⟨0, 0, [], rfl, rfl, Lib.hid (ownS_none _ _), Lib.hid (TAt.start s), Lib.hid (Below.refl _ _)⟩
    case round =>
      obtain ⟨k, st, out, rfl, rfl, own, hT, hbel⟩ := hrel
      have hle := hT.out.le
      have hks := hT.out.ks
      have hol := hT.out.len
      have hzr := hbel.out.size
      by_cases hlt : k < s.size
      · have b7 : (0 : Int) ≤ (k : Int) := by omega
        have b8 : (k : Int) < (s.size : Int) := by omega
        obtain ⟨m, hm⟩ : ∃ m, m = k + 1 := ⟨_, rfl⟩
        have e1 : (k : Int) + 1 = (m : Int) := by omega
        by_cases hlast : m = s.size
        · have g2 : ((m : Int) == (s.size : Int)) = true := by rw [beq_iff_eq]; omega
          have hT' := Lib.hid (hT.out.cut hlt (fun h => by omega))
          rw [← hm] at hT'
          have hx := ext_sz s st m (by omega)
          have b9 : (st : Int) ≤ (m : Int) := by omega
          have b10 : (m : Int) ≤ (s.size : Int) := by omega
          have HM := Lib.hid hm
          clear hm hlast
          go_wp2_with fail
          go_quiet (fail)
          go_wp2_with (at_builtin; refine wp_appS rfl (.tmp 37) (.tmp 42) rfl W.heap.size _ out [s.extract st m] _ _ rfl (World.ownsRow.alloc own.out _) rfl (sts_one _ _ _ rfl (by omega)) (fun h => by cases h) (by simp; omega) (by simp; omega) ?_; intro v2 w2 own2 bel2)
          go_roundw
          case rel => exact ⟨m, m, _, rfl, by go_num, Lib.hid own2, hT', Lib.hid (up_own (up_alloc (below_drewN hbel.out _) _) bel2)⟩
          case measure => simp [intOf]; omega
        · have g2 : ((m : Int) == (s.size : Int)) = false := by rw [beq_eq_false_iff_ne]; omega
          have hms : m < s.size := by omega
          have b11 : (0 : Int) ≤ (m : Int) := by omega
          have b12 : (m : Int) < (s.size : Int) := by omega
          have TG := fun w => wtogether_any s[k].toNat s[m].toNat w
          cases ht : Wd.tog s[k] s[m] with
          | true =>
            have hT' : Hid (TAt s m st out) := Lib.hid (by
              subst hm; exact hT.out.on hms ht)
            rw [← tog_tg, ht] at TG
            have HM := Lib.hid hm
            clear hm hlast ht
            go_wp2_with fail
            go_quiet ((go_at_call 21; exact quiet_one (TG _)))
            go_wp2_with fail
            go_roundw
            case rel => exact ⟨m, st, _, rfl, by go_num, Lib.hid own.out, hT', Lib.hid (below_drewN hbel.out _)⟩
            case measure => simp [intOf]; omega
          | false =>
            have hT' : Hid (TAt s m m (out ++ [s.extract st m])) := Lib.hid (by
              subst hm; exact hT.out.cut hlt (fun _ => ht))
            rw [← tog_tg, ht] at TG
            have hx := ext_sz s st m (by omega)
            have b9 : (st : Int) ≤ (m : Int) := by omega
            have b10 : (m : Int) ≤ (s.size : Int) := by omega
            have HM := Lib.hid hm
            clear hm hlast ht
            go_wp2_with fail
            go_quiet ((go_at_call 21; exact quiet_one (TG _)))
            go_wp2_with (at_builtin; refine wp_appS rfl (.tmp 37) (.tmp 42) rfl W.heap.size _ out [s.extract st m] _ _ rfl (World.ownsRow.alloc own.out _) rfl (sts_one _ _ _ rfl (by omega)) (fun h => by cases h) (by simp; omega) (by simp; omega) ?_; intro v2 w2 own2 bel2)
            go_roundw
            case rel => exact ⟨m, m, _, rfl, by go_num, Lib.hid own2, hT', Lib.hid (up_own (up_alloc (below_drewN hbel.out _) _) bel2)⟩
            case measure => simp [intOf]; omega
      · obtain rfl : k = s.size := by omega
        have hd := Lib.hid hT.out.done
        have FC := FB.out.up hbel.out
        have OW := Lib.hid own.out
        have FW := Lib.hid FB.out.lt
        obtain ⟨d0, d1, -, -, -⟩ := FC.set2 0 0
        obtain ⟨a0, a1, a2, a3, a4⟩ := FC
        obtain ⟨p', cp, rfl, -, -⟩ := sts_of_own own.out (fun x hx => by rw [hd.out] at hx; have := Wd.tk_size s x hx; omega) (by omega)
        go_wp2_with fail
        refine bodyPost_ret (v := .tuple #[.slice p' out.length cp, .agg #[.int .i64 0, .int .i64 0]]) (by simp [results, Try.results8, go_sem, d0, d1]) rfl ⟨_, by rw [E.out.1], ?_, ?_⟩
        · rw [E.out.2, ← hd.out]
          have hz := FW.out
          exact ownS_le (ownsRow_setCell_below (ownsRow_setCell_below OW.out (a := ⟨w.heap.size, 0, none⟩) (by dsimp only; omega) _) (a := ⟨w.heap.size, 1, none⟩) (by dsimp only; omega) _) (by omega)
        · exact ((up_call uA.out hbel.out).setCell (Nat.le_refl _) _).setCell (Nat.le_refl _) _
  · have E : Hid (tL s = []) := Lib.hid (if_neg h1)
    obtain ⟨d0, d1, -, -, -⟩ := (HA.out.set2 (Lin.lc s) 0).alloc (.cells #[.int .i64 (Lin.lc s), .int .i64 0] 24 (0, 0))
    obtain ⟨a0, a1, a2, a3, a4⟩ := FA
    go_wp2_with fail
    go_region
    go_wp2_with fail
    refine bodyPost_ret (v := .tuple #[.slice none 0 0, .agg #[.int .i64 (Lin.lc s), .int .i64 0]]) (by simp [results, Try.results8, go_sem, d0, d1]) rfl ⟨_, rfl, by rw [E.out]; exact ownS_none _ _, ?_⟩
    (repeat' (first | (with_reducible exact Below.refl _ _) | (with_reducible assumption) | (with_reducible refine below_drewN ?_ _) | (with_reducible refine Below.setCell ?_ ?_ _) | (with_reducible refine Below.alloc ?_ ?_ _) | (with_reducible refine Below.drew ?_) | go_size))
end Go.Proofs.Ytkfloglpihbdjaa
