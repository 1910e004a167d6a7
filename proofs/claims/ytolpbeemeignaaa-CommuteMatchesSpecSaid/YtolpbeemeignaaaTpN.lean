/-
  Plain mathematics of patches and scripts: lengths, costs, the script of two texts applies (no program here).
-/
import Derived.Test.YtolpbeemeignaaaTpM
import Derived.Test.YtolpbeemeignaaaDfC
import Derived.Test.YtolpbeemeignaaaDfD
namespace Go.Proofs.Ytolpbeemeignaaa.Tp
open Go.RowKit
set_option maxRecDepth 4000

/-- by how much a patch lengthens a text -/
def gr : List H → Int
  | [] => 0
  | h :: r => (h.new.length : Int) - h.old.length + gr r
/-- how many lines it deletes and inserts -/
def co : List H → Nat
  | [] => 0
  | h :: r => h.old.length + h.new.length + co r
theorem co_app (l m : List H) : co (l ++ m) = co l + co m := by
  induction l with
  | nil => simp [co]
  | cons h r ih => simp only [List.cons_append, co, ih]; omega
theorem ap_len (t : List ByteArray) (hs : List H) : ∀ (prev : Int) (k : Nat), Ch prev hs → (∀ h ∈ hs, Has t h) → ((k : Int) ≤ prev + 1) → k ≤ t.length → ((ap t k hs).length : Int) = t.length - k + gr hs := by
  induction hs with
  | nil => intro prev k _ _ _ hk; simp [ap, gr]; omega
  | cons h r ih =>
    intro prev k hch hfit hp hk
    obtain ⟨hok, hr⟩ := hch
    have hh := hfit h (List.mem_cons_self ..)
    have g1 := hok.gap; have g2 := hok.lo; have g3 := hh.hi
    have e1 : (en h : Int) = h.at' + h.old.length := rfl
    have := ih (en h) (en h).toNat hr (fun x hx => hfit x (List.mem_cons_of_mem _ hx)) (by omega) (by omega)
    have lm := mid_size t k h.at'.toNat (by omega)
    simp only [ap, gr, List.length_append, lm]
    omega
theorem ok_len {t : List ByteArray} {hs : List H} (h : Ok hs t) : ((ap t 0 hs).length : Int) = t.length + gr hs := by
  have := ap_len t hs (-1) 0 h.vp.ch h.fit (by omega) (Nat.zero_le _)
  rw [this]; omega
theorem lcs_skip (x y a b : List ByteArray) : Dif.lcs a b ≤ Dif.lcs (x ++ a) (y ++ b) := by
  obtain ⟨l, h1, h2, h3⟩ := Dif.lcs_has a b
  rw [← h3]
  exact Dif.lcs_max _ _ l (h1.trans (List.sublist_append_right _ _)) (h2.trans (List.sublist_append_right _ _))
def so : List H → Nat
  | [] => 0
  | h :: r => h.old.length + so r
theorem co_gr (hs : List H) : (co hs : Int) = 2 * (so hs : Nat) + gr hs := by
  induction hs with
  | nil => rfl
  | cons h r ih => simp only [co, so, gr]; omega
theorem lcs_ap (t : List ByteArray) (hs : List H) : ∀ (prev : Int) (k : Nat), Ch prev hs → (∀ h ∈ hs, Has t h) → ((k : Int) ≤ prev + 1) → k ≤ t.length → t.length - k ≤ Dif.lcs (t.drop k) (ap t k hs) + so hs := by
  induction hs with
  | nil =>
    intro prev k _ _ _ hk
    rw [ap, Dif.lcs_self, List.length_drop]; exact Nat.le_add_right _ _
  | cons h r ih =>
    intro prev k hch hfit hp hk
    obtain ⟨hok, hr⟩ := hch
    have hh := hfit h (List.mem_cons_self ..)
    have g1 := hok.gap; have g2 := hok.lo; have g3 := hh.hi
    have e1 : (en h : Int) = h.at' + h.old.length := rfl
    have := ih (en h) (en h).toNat hr (fun x hx => hfit x (List.mem_cons_of_mem _ hx)) (by omega) (by omega)
    have lm := mid_size t k h.at'.toNat (by omega)
    have d : t.drop k = mid t k h.at'.toNat ++ (h.old ++ t.drop (en h).toNat) := by
      rw [← mid_drop t k h.at'.toNat (by omega), ← mid_drop t h.at'.toNat (en h).toNat (by omega), hh.eq]
    rw [d, ap, List.append_assoc, Dif.lcs_pre, lm, so]
    have := lcs_skip h.old h.new (t.drop (en h).toNat) (ap t (en h).toNat r)
    omega
/-- no patch that leads from one text to another is cheaper than their distance -/
theorem least {t : List ByteArray} {hs : List H} (h : Ok hs t) : (t.length : Int) + (ap t 0 hs).length - 2 * (Dif.lcs t (ap t 0 hs) : Nat) ≤ (co hs : Nat) := by
  have h1 := lcs_ap t hs (-1) 0 h.vp.ch h.fit (by omega) (Nat.zero_le _)
  have h2 := ok_len h
  have h3 := co_gr hs
  rw [List.drop_zero] at h1
  omega

/-! scripts -/
theorem walk_al {a b : List ByteArray} (I : Nat → Nat → List (Nat × ByteArray) → Prop) (h0 : I 0 0 [])
    (hk : ∀ i j out (hi : i < a.length) (hj : j < b.length), a[i] = b[j] → I i j out → I (i + 1) (j + 1) (out ++ [(0, a[i])]))
    (hd : ∀ i j out (hi : i < a.length), j ≤ b.length → I i j out → I (i + 1) j (out ++ [(1, a[i])]))
    (hi' : ∀ i j out (hj : j < b.length), i ≤ a.length → I i j out → I i (j + 1) (out ++ [(2, b[j])])) : I a.length b.length (Dif.al a b) := by
  have go : ∀ (n i j : Nat) (out : List (Nat × ByteArray)), n = (a.length - i) + (b.length - j) → AAt a b i j out → I i j out → I a.length b.length (Dif.al a b) := by
    intro n
    induction n using Nat.strongRecOn with
    | ind n ih =>
      intro i j out hn hA h
      have k1 := hA.hi
      have k2 := hA.hj
      by_cases c1 : i < a.length
      · by_cases c2 : j < b.length
        · by_cases e : a[i] = b[j]
          · exact ih _ (by omega) (i + 1) (j + 1) _ rfl (hA.keep c1 c2 e) (hk i j out c1 c2 e h)
          · by_cases l : tv a b i (j + 1) ≤ tv a b (i + 1) j
            · exact ih _ (by omega) (i + 1) j _ rfl (hA.del c1 (fun _ => ⟨e, l⟩)) (hd i j out c1 k2 h)
            · exact ih _ (by omega) i (j + 1) _ rfl (hA.ins c2 (fun _ => ⟨e, l⟩)) (hi' i j out c2 k1 h)
        · exact ih _ (by omega) (i + 1) j _ rfl (hA.del c1 (fun h => (c2 h).elim)) (hd i j out c1 k2 h)
      · by_cases c2 : j < b.length
        · exact ih _ (by omega) i (j + 1) _ rfl (hA.ins c2 (fun h => (c1 h).elim)) (hi' i j out c2 k1 h)
        · have e := hA.done (by omega) (by omega)
          have e1 : i = a.length := by omega
          have e2 : j = b.length := by omega
          subst e e1 e2; exact h
  exact go _ 0 0 [] rfl (AAt.start a b) h0
/-- a patch applied as far as the line s of the old text -/
def apTo (t : List ByteArray) (s : Nat) : Nat → List H → List ByteArray
  | k, [] => mid t k s
  | k, h :: r => mid t k h.at'.toNat ++ h.new ++ apTo t s (en h).toNat r
theorem apTo_all (t : List ByteArray) (hs : List H) : ∀ k, apTo t t.length k hs = ap t k hs := by
  induction hs with
  | nil => intro k; rw [apTo, ap, mid_all]
  | cons h r ih => intro k; rw [apTo, ap, ih]
def lastE : Int → List H → Int
  | prev, [] => prev
  | _, h :: r => lastE (en h) r
theorem lastE_snoc (hs : List H) (h : H) : ∀ prev, lastE prev (hs ++ [h]) = en h := by
  induction hs with
  | nil => intro prev; rfl
  | cons x r ih => intro prev; exact ih _
theorem ch_snoc (hs : List H) (h : H) : ∀ prev, Ch prev (hs ++ [h]) ↔ Ch prev hs ∧ Hok (lastE prev hs) h := by
  induction hs with
  | nil => intro prev; simp [Ch, lastE]
  | cons x r ih => intro prev; simp only [List.cons_append, Ch, lastE, ih, and_assoc]
theorem apTo_snoc (t : List ByteArray) (hs : List H) (h : H) (s : Nat) : ∀ k, apTo t s k (hs ++ [h]) = apTo t h.at'.toNat k hs ++ h.new ++ mid t (en h).toNat s := by
  induction hs with
  | nil => intro k; rfl
  | cons x r ih => intro k; simp only [List.cons_append, apTo, ih, List.append_assoc]
theorem apTo_more (t : List ByteArray) (hs : List H) (s s' : Nat) (hs' : s ≤ s') : ∀ (prev : Int) (k : Nat), (k : Int) ≤ s → Ch prev hs → lastE prev hs ≤ s → apTo t s k hs ++ mid t s s' = apTo t s' k hs := by
  induction hs with
  | nil => intro prev k hk _ _; rw [apTo, apTo, mid_join t k s s' (by omega) hs']
  | cons h r ih =>
    intro prev k hk hch hl
    have h1 : en h ≤ s := by
      have : ∀ (r : List H) (p : Int), Ch p r → p ≤ lastE p r := by
        intro r
        induction r with
        | nil => intro p _; exact Int.le_refl _
        | cons x r ih =>
          intro p hc
          have := ih _ hc.2
          have := hc.1.gap
          have e : en x = x.at' + x.old.length := rfl
          show p ≤ lastE (en x) r
          omega
      have := this r (en h) hch.2
      exact Int.le_trans this hl
    have h2 := hch.1.lo
    have e : en h = h.at' + h.old.length := rfl
    rw [apTo, apTo, List.append_assoc, ih (en h) _ (by omega) hch.2 hl]
/-- the hunks ahead of fa lead to the text ahead of fb -/
structure Gd (a b : List ByteArray) (fa fb kc : Nat) (hs : List H) : Prop where
  ch : Ch (-1) hs
  last : lastE (-1) hs < fa
  fit : ∀ h ∈ hs, Has a h
  to : apTo a fa 0 hs = b.take fb
  cost : fa + fb = co hs + 2 * kc
theorem mid_txt {l : List ByteArray} (lo hi : Nat) (h : Lin.vC l = 0) : Lin.vC (mid l lo hi) = 0 := by
  obtain ⟨h1, h2⟩ := Lin.vC_zero h
  refine Lin.vC_txt ⟨?_, fun s hs => h2 s (List.mem_of_mem_drop (List.mem_of_mem_take hs))⟩
  unfold mid; rw [List.length_take, List.length_drop]; omega
/-- with the hunk that is still to be written -/
theorem Gd.with {a b : List ByteArray} {fa fb kc i j : Nat} {hs : List H} (g : Gd a b fa fb kc hs) (hab : okD a b) (hfi : fa ≤ i) (hfj : fb ≤ j) (hi : i ≤ a.length) (hj : j ≤ b.length) :
    Ch (-1) (hs ++ pend a b fa fb i j) ∧ lastE (-1) (hs ++ pend a b fa fb i j) ≤ i ∧ (∀ h ∈ hs ++ pend a b fa fb i j, Has a h) ∧ apTo a i 0 (hs ++ pend a b fa fb i j) = b.take j ∧ i + j = co (hs ++ pend a b fa fb i j) + 2 * kc := by
  have la := len_ok hab.1
  have gl := g.last
  have gc := g.cost
  by_cases e : fa < i ∨ fb < j
  · rw [pend_one e]
    have s1 := mid_size a fa i hi
    have s2 := mid_size b fb j hj
    have ee : en (⟨(fa : Int), mid a fa i, mid b fb j⟩ : H) = (i : Int) := by unfold en; simp only [s1]; omega
    refine ⟨(ch_snoc _ _ _).2 ⟨g.ch, ⟨by simp only; omega, by simp only; omega, mid_txt _ _ hab.1, mid_txt _ _ hab.2, by simp only [s1, s2]; omega, gl, by rw [ee]; omega⟩⟩, by rw [lastE_snoc, ee]; exact Int.le_refl _, fun h hh => ?_, ?_, ?_⟩
    · rcases List.mem_append.1 hh with hh | hh
      · exact g.fit h hh
      · rw [List.mem_singleton.1 hh]
        refine ⟨by simp only; omega, by rw [ee]; omega, ?_⟩
        rw [ee]; simp only [Int.toNat_natCast]
    · rw [apTo_snoc, ee]
      simp only [Int.toNat_natCast]
      rw [g.to, mid_nil, List.append_nil]
      unfold mid
      rw [show j = fb + (j - fb) by omega, List.take_add, show fb + (j - fb) - fb = j - fb by omega]
    · rw [co_app]
      simp only [co, s1, s2]
      omega
  · rw [pend_none e, List.append_nil]
    obtain rfl : fa = i := by omega
    obtain rfl : fb = j := by omega
    exact ⟨g.ch, by omega, g.fit, g.to, g.cost⟩
theorem script_walk {a b : List ByteArray} (hab : okD a b) : ∃ fa fb H, Pm a b fa fb a.length b.length H (Dif.al a b) ∧ Gd a b fa fb (kept (Dif.al a b)).length H := by
  have := walk_al (a := a) (b := b) (fun i j out => ∃ fa fb H, Pm a b fa fb i j H out ∧ Gd a b fa fb (kept out).length H)
    ⟨0, 0, [], Pm.start a b, ⟨trivial, by simp [lastE], fun h hh => (by cases hh), by rw [apTo, mid_nil, List.take_zero], by simp [co, kept]⟩⟩
    (fun i j out hi hj he ⟨fa, fb, H, hP, hG⟩ => ?_) (fun i j out hi _ ⟨fa, fb, H, hP, hG⟩ => ⟨fa, fb, H, hP.del hi, by rw [kept_snoc, if_neg (by decide), List.append_nil]; exact hG⟩)
    (fun i j out hj _ ⟨fa, fb, H, hP, hG⟩ => ⟨fa, fb, H, hP.ins hj, by rw [kept_snoc, if_neg (by decide), List.append_nil]; exact hG⟩)
  · exact this
  · obtain ⟨w1, w2, w3, w4, w5⟩ := hG.with hab hP.hi hP.hj (Nat.le_of_lt hi) (Nat.le_of_lt hj)
    refine ⟨i + 1, j + 1, _, hP.keep _, ⟨w1, by omega, w3, ?_, ?_⟩⟩
    · rw [← apTo_more a _ i (i + 1) (Nat.le_succ _) (-1) 0 (by omega) w1 w2, w4, mid_next a i i (Nat.le_refl _) hi, mid_nil, List.nil_append, he, List.take_succ_eq_append_getElem hj]
    · rw [kept_snoc, if_pos rfl, List.length_append]
      simp only [List.length_singleton]
      omega
/-- the script of two texts leads from one to the other, and costs their distance -/
theorem script_ok {a b : List ByteArray} (hab : okD a b) : Ok (Dif.pof (Dif.al a b)) a ∧ ap a 0 (Dif.pof (Dif.al a b)) = b ∧ (co (Dif.pof (Dif.al a b)) : Int) = dD a b := by
  obtain ⟨fa, fb, H, hP, hG⟩ := script_walk hab
  obtain ⟨w1, w2, w3, w4, w5⟩ := hG.with hab hP.hi hP.hj (Nat.le_refl _) (Nat.le_refl _)
  have e : Dif.pof (Dif.al a b) = H ++ pend a b fa fb a.length b.length := hP.done
  have k1 := hP.len
  have k2 := hP.hi
  have la := len_ok hab.1
  have lb := len_ok hab.2
  have k3 := pend_len a b fa fb a.length b.length
  rw [apTo_all, List.take_length] at w4
  rw [e]
  refine ⟨⟨⟨by rw [List.length_append]; omega, w1⟩, hab.1, w3, by rw [w4]; exact lb⟩, w4, ?_⟩
  have hk : (kept (Dif.al a b)).length = Dif.lcs a b := (Dif.kp_all a b).2.2
  rw [dD, if_pos hab, ← hk]
  omega
end Go.Proofs.Ytolpbeemeignaaa.Tp
