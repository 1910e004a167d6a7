
/-
  Plain mathematics of multi-value registers: writes; what the laws want.
-/
import Derived.Test.YtidncnhhjfdifaaMvM
namespace Go.Proofs.Ytidncnhhjfdifaa
namespace Mv
theorem cov_get : ∀ (a b : List Int), a.length = b.length → (cov a b = true ↔ ∀ i, i < a.length → b.getD i 0 ≤ a.getD i 0)
  | [], [], _ => by simp [cov]
  | x :: a, y :: b, h => by
    unfold cov
    rw [Bool.and_eq_true, cov_get a b (by simpa using h)]
    simp only [Bool.not_eq_true', decide_eq_false_iff_not]
    constructor
    · rintro ⟨h1, h2⟩ i hi
      cases i with
      | zero => simpa using h1
      | succ i => simpa using h2 i (by simpa using hi)
    · intro hh
      refine ⟨by simpa using hh 0 (by simp), fun i hi => by simpa using hh (i + 1) (by simpa using hi)⟩
theorem cov_not {a b : List Int} (h : a.length = b.length) {i : Nat} (hi : i < a.length) (hlt : a.getD i 0 < b.getD i 0) : cov a b = false := by
  cases hc : cov a b with
  | false => rfl
  | true => have := (cov_get a b h).1 hc i hi; omega
def zeros : List Int := [0, 0, 0, 0, 0, 0]
def cvF (c : List Int) (l : List V) : List Int := l.foldl (fun c v => List.zipWith max c v.vec) c
def cvr (l : List V) : List Int := cvF zeros l
theorem zw_len {c v : List Int} (h1 : c.length = 6) (h2 : v.length = 6) : (List.zipWith max c v).length = 6 := by rw [List.length_zipWith, h1, h2]; rfl
theorem zw_get {c v : List Int} (h1 : c.length = 6) (h2 : v.length = 6) {i : Nat} (hi : i < 6) : (List.zipWith max c v).getD i 0 = max (c.getD i 0) (v.getD i 0) := by
  rw [List.getD_eq_getElem?_getD, List.getD_eq_getElem?_getD, List.getD_eq_getElem?_getD, List.getElem?_zipWith, List.getElem?_eq_getElem (by omega : i < c.length), List.getElem?_eq_getElem (by omega : i < v.length)]
  rfl
theorem cvF_facts : ∀ (l : List V) (c : List Int), c.length = 6 → (∀ v ∈ l, v.vec.length = 6) →
    (cvF c l).length = 6 ∧ (∀ i, i < 6 → c.getD i 0 ≤ (cvF c l).getD i 0) ∧ (∀ v ∈ l, ∀ i, i < 6 → v.vec.getD i 0 ≤ (cvF c l).getD i 0) ∧
    (∀ i, i < 6 → (cvF c l).getD i 0 = c.getD i 0 ∨ ∃ v ∈ l, (cvF c l).getD i 0 = v.vec.getD i 0)
  | [], c, hc, _ => ⟨hc, fun _ _ => Int.le_refl _, (fun _ h => by cases h), fun _ _ => .inl rfl⟩
  | v :: l, c, hc, hl => by
    have hv := hl v (List.mem_cons_self ..)
    obtain ⟨h1, h2, h3, h4⟩ := cvF_facts l (List.zipWith max c v.vec) (zw_len hc hv) (fun w hw => hl w (List.mem_cons_of_mem _ hw))
    have e : cvF c (v :: l) = cvF (List.zipWith max c v.vec) l := rfl
    rw [e]
    refine ⟨h1, fun i hi => ?_, fun w hw i hi => ?_, fun i hi => ?_⟩
    · have := h2 i hi; rw [zw_get hc hv hi] at this; omega
    · rcases List.mem_cons.1 hw with rfl | hw
      · have := h2 i hi; rw [zw_get hc hv hi] at this; omega
      · exact h3 w hw i hi
    · rcases h4 i hi with h | ⟨w, hw, h⟩
      · rw [zw_get hc hv hi] at h
        rw [h]
        by_cases hm : c.getD i 0 ≤ v.vec.getD i 0
        · exact .inr ⟨v, List.mem_cons_self .., by omega⟩
        · exact .inl (by omega)
      · exact .inr ⟨w, List.mem_cons_of_mem _ hw, h⟩
theorem getD_mem {l : List Int} {i : Nat} (h : i < l.length) : l.getD i 0 ∈ l := by
  rw [List.getD_eq_getElem?_getD, List.getElem?_eq_getElem h]; exact List.getElem_mem h
theorem zeros_get (i : Nat) : zeros.getD i 0 = 0 := by
  match i with
  | 0 | 1 | 2 | 3 | 4 | 5 => rfl
  | n + 6 => rfl
theorem cvr_facts {l : List V} (h : ∀ v ∈ l, Okv v) : (cvr l).length = 6 ∧ (∀ i, i < 6 → 0 ≤ (cvr l).getD i 0 ∧ (cvr l).getD i 0 ≤ 1000000000) ∧ ∀ v ∈ l, ∀ i, i < 6 → v.vec.getD i 0 ≤ (cvr l).getD i 0 := by
  obtain ⟨h1, h2, h3, h4⟩ := cvF_facts l zeros rfl fun v hv => (h v hv).len
  refine ⟨h1, fun i hi => ?_, h3⟩
  have := h2 i hi
  rw [zeros_get] at this
  refine ⟨this, ?_⟩
  rcases h4 i hi with e | ⟨v, hv, e⟩
  · show (cvF zeros l).getD i 0 ≤ _
    rw [e, zeros_get]; omega
  · show (cvF zeros l).getD i 0 ≤ _
    rw [e]
    exact (h v hv).hi _ (getD_mem (by rw [(h v hv).len]; exact hi))
/-- the written value -/
def wV (l : List V) (r : Nat) (v : Int) : V := ⟨v, (cvr l).set r ((cvr l).getD r 0 + 1)⟩
def wCI (l : List V) (r v : Int) : Int × Int :=
  if vC l ≠ 0 then (vC l, vI l) else if r < 0 ∨ 6 ≤ r then (3, -2) else if out v = true then (3, -3) else if 1000000000 < (cvr l).getD r.toNat 0 + 1 then (10, -1) else (0, 0)
def wC (l : List V) (r v : Int) : Int := (wCI l r v).1
def wI (l : List V) (r v : Int) : Int := (wCI l r v).2
def wL (l : List V) (r v : Int) : List V := if wC l r v = 0 then [wV l r.toNat v] else []
structure Wr (l : List V) (r v : Int) : Prop where
  val : Val l
  r0 : 0 ≤ r
  r6 : r < 6
  v0 : 0 ≤ v
  v1 : v ≤ 1000000000
  fits : (cvr l).getD r.toNat 0 + 1 ≤ 1000000000
theorem wr_iff (l : List V) (r v : Int) : wC l r v = 0 ↔ Wr l r v := by
  unfold wC wCI
  by_cases h1 : vC l = 0
  · rw [if_neg (by simpa using h1)]
    by_cases h2 : r < 0 ∨ 6 ≤ r
    · rw [if_pos h2]
      exact ⟨(fun h => by simp at h), fun h => by have := h.r0; have := h.r6; omega⟩
    · rw [if_neg h2]
      by_cases h3 : out v = true
      · rw [if_pos h3]
        refine ⟨(fun h => by simp at h), fun h => ?_⟩
        rw [out_false.2 ⟨h.v0, h.v1⟩] at h3; cases h3
      · rw [if_neg h3]
        have h3' := out_false.1 (by simpa using h3 : out v = false)
        by_cases h4 : 1000000000 < (cvr l).getD r.toNat 0 + 1
        · rw [if_pos h4]
          exact ⟨(fun h => by simp at h), fun h => by have := h.fits; omega⟩
        · rw [if_neg h4]
          exact ⟨fun _ => ⟨(val_iff l).1 h1, by omega, by omega, h3'.1, h3'.2, by omega⟩, fun _ => rfl⟩
  · rw [if_pos h1]
    exact ⟨fun h => (h1 h).elim, fun h => (h1 ((val_iff l).2 h.val)).elim⟩
theorem set_get {l : List Int} {r i : Nat} {x : Int} (hi : i < l.length) : (l.set r x).getD i 0 = if r = i then x else l.getD i 0 := by
  rw [List.getD_eq_getElem?_getD, List.getElem?_set, List.getD_eq_getElem?_getD]
  by_cases h : r = i
  · subst h; rw [if_pos rfl, if_pos rfl, if_pos hi]; rfl
  · rw [if_neg h, if_neg h]
theorem Wr.facts {l : List V} {r v : Int} (h : Wr l r v) : (wV l r.toNat v).vec.length = 6 ∧ (∀ i, i < 6 → (wV l r.toNat v).vec.getD i 0 = if r.toNat = i then (cvr l).getD i 0 + 1 else (cvr l).getD i 0) := by
  obtain ⟨h1, h2, h3⟩ := cvr_facts h.val.each
  refine ⟨by unfold wV; rw [List.length_set]; exact h1, fun i hi => ?_⟩
  show ((cvr l).set r.toNat ((cvr l).getD r.toNat 0 + 1)).getD i 0 = _
  rw [set_get (by omega)]
  split
  · rename_i e; rw [e]
  · rfl
theorem get_all {l : List Int} {p : Int → Prop} (h : ∀ i, i < l.length → p (l.getD i 0)) : ∀ n ∈ l, p n := by
  intro n hn
  obtain ⟨i, hi, rfl⟩ := List.mem_iff_getElem.1 hn
  have := h i hi
  rwa [List.getD_eq_getElem?_getD, List.getElem?_eq_getElem hi] at this
theorem Wr.okv {l : List V} {r v : Int} (h : Wr l r v) : Okv (wV l r.toNat v) := by
  obtain ⟨h1, h2, h3⟩ := cvr_facts h.val.each
  obtain ⟨f1, f2⟩ := h.facts
  have hr : r.toNat < 6 := by have := h.r0; have := h.r6; omega
  refine ⟨h.v0, h.v1, f1, get_all fun i hi => ?_, get_all fun i hi => ?_, ⟨_, getD_mem (i := r.toNat) (by omega), ?_⟩⟩
  · rw [f2 i (by omega)]
    have := (h2 i (by omega)).1
    split <;> omega
  · rw [f2 i (by omega)]
    have := (h2 i (by omega)).2
    have hf := h.fits
    split
    · rename_i e; rw [← e]; exact hf
    · exact this
  · rw [f2 _ hr, if_pos rfl]
    have := (h2 _ hr).1
    omega
theorem Wr.dom {l : List V} {r v : Int} (h : Wr l r v) : ∀ x ∈ l, cov (wV l r.toNat v).vec x.vec = true ∧ cov x.vec (wV l r.toNat v).vec = false := by
  obtain ⟨h1, h2, h3⟩ := cvr_facts h.val.each
  obtain ⟨f1, f2⟩ := h.facts
  have hr : r.toNat < 6 := by have := h.r0; have := h.r6; omega
  intro x hx
  have hl := (h.val.each x hx).len
  constructor
  · rw [cov_get _ _ (by omega)]
    intro i hi
    rw [f2 i (by omega)]
    have := h3 x hx i (by omega)
    split <;> omega
  · refine cov_not (i := r.toNat) (by omega) (by omega) ?_
    rw [f2 _ hr, if_pos rfl]
    have := h3 x hx _ hr
    omega
theorem val_single {y : V} (h : Okv y) : Val [y] := ⟨by simp, (fun v hv => by rw [List.mem_singleton.1 hv]; exact h), List.pairwise_singleton .., List.pairwise_singleton ..⟩
theorem wL_val {l : List V} {r v : Int} (h : wC l r v = 0) : Val (wL l r v) := by
  unfold wL
  rw [if_pos h]
  exact val_single ((wr_iff l r v).1 h).okv
theorem mL_val {a b : List V} (h : mC a b = 0) : Val (mL a b) := ((mg_iff a b).1 h).val
theorem rem_none {l o : List V} {f : List Int → List Int → Bool} (h : ∀ v ∈ l, ∃ w ∈ o, f w.vec v.vec = true) : rem l o f = [] := by
  unfold rem
  rw [List.filter_eq_nil_iff]
  intro v hv
  obtain ⟨w, hw, e⟩ := h v hv
  simp only [Bool.not_eq_true', Bool.not_eq_false, List.any_eq_true]
  exact ⟨w, hw, e⟩
theorem rem_all {l o : List V} {f : List Int → List Int → Bool} (h : ∀ v ∈ l, ∀ w ∈ o, f w.vec v.vec = false) : rem l o f = l := by
  unfold rem
  rw [List.filter_eq_self]
  intro v hv
  rw [any_false']
  exact h v hv
theorem srt_single (y : V) : srt [y] = [y] := List.perm_singleton.1 (srt_perm [y])
/-- a value that supersedes a whole register: merged with it, it alone stays -/
theorem dom_left {a : List V} {y : V} (ha : Val a) (hy : Okv y) (h : ∀ v ∈ a, cov y.vec v.vec = true ∧ cov v.vec y.vec = false) : mC [y] a = 0 ∧ mL [y] a = [y] := by
  have er : raw [y] a = [y] := by
    unfold raw
    rw [rem_all (fun v hv w hw => ?_), rem_none (fun v hv => ⟨y, List.mem_singleton.2 rfl, (h v hv).1⟩), List.append_nil]
    rw [List.mem_singleton.1 hv]
    unfold sup
    rw [(h w hw).2]; rfl
  have hm : Mg [y] a := ⟨val_single hy, ha, (fun v hv w hw e => by
    rw [List.mem_singleton.1 hv] at e
    have := h w hw
    rw [← e, cov_refl] at this
    cases this.2), by rw [er]; simp⟩
  have hz := (mg_iff _ _).2 hm
  exact ⟨hz, by unfold mL; rw [if_pos hz, er, srt_single]⟩
theorem dom_right {a : List V} {y : V} (ha : Val a) (hy : Okv y) (h : ∀ v ∈ a, cov y.vec v.vec = true ∧ cov v.vec y.vec = false) : mC a [y] = 0 ∧ mL a [y] = [y] := by
  have er : raw a [y] = [y] := by
    unfold raw
    rw [rem_none (fun v hv => ⟨y, List.mem_singleton.2 rfl, by unfold sup; rw [(h v hv).1, (h v hv).2]; rfl⟩), rem_all (fun v hv w hw => by rw [List.mem_singleton.1 hv]; exact (h w hw).2), List.nil_append]
  have hm : Mg a [y] := ⟨ha, val_single hy, (fun v hv w hw e => by
    rw [List.mem_singleton.1 hw] at e
    have := h v hv
    rw [e, cov_refl] at this
    cases this.2), by rw [er]; simp⟩
  have hz := (mg_iff _ _).2 hm
  exact ⟨hz, by unfold mL; rw [if_pos hz, er, srt_single]⟩
/-- MultivalueWriteWins -/
theorem write_wins {a : List V} {r v : Int} (h : wC a r v = 0) : wL a r v = [wV a r.toNat v] ∧ mC a (wL a r v) = 0 ∧ mL a (wL a r v) = wL a r v := by
  have hw := (wr_iff a r v).1 h
  have e : wL a r v = [wV a r.toNat v] := if_pos h
  rw [e]
  have := dom_right hw.val hw.okv hw.dom
  exact ⟨rfl, this.1, this.2⟩
/-- MultivalueResolves -/
theorem resolves {a b : List V} {r v : Int} (hm : mC a b = 0) (h : wC (mL a b) r v = 0) : let y := wL (mL a b) r v; mC y a = 0 ∧ mC b y = 0 ∧ mL y a = y ∧ mL b y = y := by
  have hM := (mg_iff a b).1 hm
  have hw := (wr_iff _ r v).1 h
  have e : wL (mL a b) r v = [wV (mL a b) r.toNat v] := if_pos h
  have hd : ∀ x, x ∈ a ∨ x ∈ b → cov (wV (mL a b) r.toNat v).vec x.vec = true ∧ cov x.vec (wV (mL a b) r.toNat v).vec = false := by
    intro x hx
    obtain ⟨w, hww, hc⟩ := hM.covers x hx
    have h1 := hw.dom w hww
    have l1 := hw.okv.len
    have l2 := (hM.val.each w hww).len
    have l3 := (hM.okv x hx).len
    refine ⟨cov_trans _ _ _ (by omega) (by omega) h1.1 hc, ?_⟩
    cases hk : cov x.vec (wV (mL a b) r.toNat v).vec with
    | false => rfl
    | true =>
      rw [cov_trans _ _ _ (by omega) (by omega) hc hk] at h1
      cases h1.2
  have h1 := dom_left hM.va hw.okv fun x hx => hd x (.inl hx)
  have h2 := dom_right hM.vb hw.okv fun x hx => hd x (.inr hx)
  dsimp only
  rw [e]
  exact ⟨h1.1, h2.1, h1.2, h2.2⟩
/-- MultivalueConcurrent: one replica -/
theorem one_replica {a : List V} {r m n : Int} (h1 : wC a r m = 0) (h2 : wC a r n = 0) : (mC (wL a r m) (wL a r n) = 0 ↔ m = n) ∧ (m = n → mL (wL a r m) (wL a r n) = wL a r m) := by
  have w1 := (wr_iff a r m).1 h1
  have w2 := (wr_iff a r n).1 h2
  have e1 : wL a r m = [wV a r.toNat m] := if_pos h1
  have e2 : wL a r n = [wV a r.toNat n] := if_pos h2
  rw [e1, e2]
  have ev : (wV a r.toNat m).vec = (wV a r.toNat n).vec := rfl
  have er : raw [wV a r.toNat m] [wV a r.toNat m] = [wV a r.toNat m] := by
    unfold raw
    rw [rem_all (fun v hv w hw => by rw [List.mem_singleton.1 hv, List.mem_singleton.1 hw]; unfold sup; rw [cov_refl]; rfl),
      rem_none (fun v hv => ⟨v, hv, cov_refl _⟩), List.append_nil]
  have hk : m = n → mC [wV a r.toNat m] [wV a r.toNat n] = 0 := by
    rintro rfl
    exact (mg_iff _ _).2 ⟨val_single w1.okv, val_single w1.okv, fun v hv w hw _ => by rw [List.mem_singleton.1 hv, List.mem_singleton.1 hw], by rw [er]; simp⟩
  refine ⟨⟨fun h => ?_, hk⟩, ?_⟩
  · exact congrArg V.val (((mg_iff _ _).1 h).same _ (List.mem_singleton.2 rfl) _ (List.mem_singleton.2 rfl) ev)
  · intro e
    have hz := hk e
    subst e
    unfold mL
    rw [if_pos hz, er, srt_single]
/-- MultivalueConcurrent: two replicas -/
theorem two_replicas {a : List V} {r s m n : Int} (h1 : wC a r m = 0) (h2 : wC a s n = 0) (hne : r ≠ s) : mC (wL a r m) (wL a s n) = 0 ∧ (mL (wL a r m) (wL a s n)).length = 2 ∧ vC (mL (wL a r m) (wL a s n)) = 0 := by
  have w1 := (wr_iff a r m).1 h1
  have w2 := (wr_iff a s n).1 h2
  have e1 : wL a r m = [wV a r.toNat m] := if_pos h1
  have e2 : wL a s n = [wV a s.toNat n] := if_pos h2
  rw [e1, e2]
  obtain ⟨f1, f2⟩ := w1.facts
  obtain ⟨g1, g2⟩ := w2.facts
  have hr : r.toNat < 6 := by have := w1.r0; have := w1.r6; omega
  have hs : s.toNat < 6 := by have := w2.r0; have := w2.r6; omega
  have hrs : r.toNat ≠ s.toNat := by have := w1.r0; have := w2.r0; omega
  have c1 : cov (wV a r.toNat m).vec (wV a s.toNat n).vec = false := cov_not (i := s.toNat) (by omega) (by omega) (by rw [f2 _ hs, g2 _ hs, if_neg hrs, if_pos rfl]; omega)
  have c2 : cov (wV a s.toNat n).vec (wV a r.toNat m).vec = false := cov_not (i := r.toNat) (by omega) (by omega) (by rw [f2 _ hr, g2 _ hr, if_neg (Ne.symm hrs), if_pos rfl]; omega)
  have er : raw [wV a r.toNat m] [wV a s.toNat n] = [wV a r.toNat m, wV a s.toNat n] := by
    unfold raw
    rw [rem_all (fun v hv w hw => by rw [List.mem_singleton.1 hv, List.mem_singleton.1 hw]; unfold sup; rw [c2]; rfl),
      rem_all (fun v hv w hw => by rw [List.mem_singleton.1 hv, List.mem_singleton.1 hw]; exact c1)]
    rfl
  have hM : Mg [wV a r.toNat m] [wV a s.toNat n] := ⟨val_single w1.okv, val_single w2.okv, (fun v hv w hw e => by
    rw [List.mem_singleton.1 hv, List.mem_singleton.1 hw] at e
    rw [e, cov_refl] at c1; cases c1), by rw [er]; simp⟩
  have hz := (mg_iff _ _).2 hM
  refine ⟨hz, ?_, (val_iff _).2 hM.val⟩
  unfold mL
  rw [if_pos hz, (srt_perm _).length_eq, er]
  rfl
/-- MultivalueSemilattice -/
theorem Mg.symm_len {a b : List V} (ha : Val a) (hb : Val b) (hs : ∀ v ∈ a, ∀ w ∈ b, v.vec = w.vec → v = w) : (raw a b).Perm (raw b a) := by
  have hs' : ∀ v ∈ b, ∀ w ∈ a, v.vec = w.vec → v = w := fun v hv w hw e => (hs w hw v hv e.symm).symm
  have nd : ∀ {x : List V}, (x.map V.vec).Nodup → x.Nodup := fun {x} h => by
    rw [List.Nodup, List.pairwise_map] at h
    exact h.imp fun hh e => hh (by rw [e])
  rw [List.perm_ext_iff_of_nodup (nd (raw_nodup ha hb)) (nd (raw_nodup hb ha))]
  intro v
  rw [mem_raw ha hb hs, mem_raw hb ha hs', Or.comm]
  constructor
  · rintro ⟨h1, h2⟩; exact ⟨h1, fun w hw => h2 w hw.symm⟩
  · rintro ⟨h1, h2⟩; exact ⟨h1, fun w hw => h2 w hw.symm⟩
theorem Mg.symm {a b : List V} (h : Mg a b) : Mg b a := ⟨h.vb, h.va, fun v hv w hw e => (h.same w hw v hv e.symm).symm, by rw [(Mg.symm_len h.va h.vb h.same).symm.length_eq]; exact h.len⟩
theorem m_comm (a b : List V) : mC a b = 0 ↔ mC b a = 0 := by rw [mg_iff, mg_iff]; exact ⟨Mg.symm, Mg.symm⟩
theorem l_comm {a b : List V} (h : mC a b = 0) : mL a b = mL b a := by
  have hM := (mg_iff a b).1 h
  refine srt_one hM.srt hM.symm.srt fun v => ?_
  rw [hM.mem, hM.symm.mem, Or.comm]
  constructor
  · rintro ⟨h1, h2⟩; exact ⟨h1, fun w hw => h2 w hw.symm⟩
  · rintro ⟨h1, h2⟩; exact ⟨h1, fun w hw => h2 w hw.symm⟩
theorem m_self {x : List V} (h : Val x) : mC x x = 0 ∧ mL x x = x := by
  have hs : ∀ v ∈ x, ∀ w ∈ x, v.vec = w.vec → v = w := fun v hv w hw e => h.one hv hw (by rw [e, cov_refl])
  have er : raw x x = x := by
    unfold raw
    rw [rem_all (fun v hv w hw => ?_), rem_none (fun v hv => ⟨v, hv, cov_refl _⟩), List.append_nil]
    cases hk : sup w.vec v.vec with
    | false => rfl
    | true =>
      rw [sup_iff (by rw [(h.each v hv).len, (h.each w hw).len])] at hk
      exact (hk.2 (by rw [h.one hw hv hk.1])).elim
  have hM : Mg x x := ⟨h, h, hs, by rw [er]; exact h.len⟩
  have hz := (mg_iff _ _).2 hM
  refine ⟨hz, srt_one hM.srt h.srt fun v => ?_⟩
  rw [hM.mem, or_self_iff]
  exact ⟨fun hh => hh.1, fun hv => ⟨hv, fun w hw hc => h.one (hw.elim id id) hv hc⟩⟩
theorem m_assoc {a b c : List V} (h1 : mC a b = 0) (h2 : mC (mL a b) c = 0) (h3 : mC b c = 0) (h4 : mC a (mL b c) = 0) : mL (mL a b) c = mL a (mL b c) := by
  have M1 := (mg_iff _ _).1 h1
  have M2 := (mg_iff _ _).1 h2
  have M3 := (mg_iff _ _).1 h3
  have M4 := (mg_iff _ _).1 h4
  refine srt_one M2.srt M4.srt fun v => ?_
  rw [M2.mem, M4.mem]
  have all : ∀ x, x ∈ a ∨ x ∈ b ∨ x ∈ c → x.vec.length = 6 := fun x hx => hx.elim (fun h => (M1.va.each x h).len) fun h => h.elim (fun h => (M1.vb.each x h).len) fun h => (M3.vb.each x h).len
  have one : ∀ x y, (x ∈ a ∨ x ∈ b ∨ x ∈ c) → (y ∈ a ∨ y ∈ b ∨ y ∈ c) → cov x.vec y.vec = true → cov y.vec x.vec = true → x.vec = y.vec := fun x y hx hy e1 e2 => cov_anti _ _ (by rw [all x hx, all y hy]) e1 e2
  constructor
  · rintro ⟨hv, hd⟩
    have hv3 : v ∈ a ∨ v ∈ b ∨ v ∈ c := hv.elim (fun h => ((M1.mem v).1 h).1.elim .inl (.inr ∘ .inl)) (.inr ∘ .inr)
    -- nothing in a, b, c covers v but v
    have top : ∀ w, w ∈ a ∨ w ∈ b ∨ w ∈ c → cov w.vec v.vec = true → w = v := by
      intro w hw hc
      rcases hw with hw | hw | hw
      · obtain ⟨u, hu, hcu⟩ := M1.covers w (.inl hw)
        have hu3 : u ∈ a ∨ u ∈ b ∨ u ∈ c := ((M1.mem u).1 hu).1.elim .inl (.inr ∘ .inl)
        have e := hd u (.inl hu) (cov_trans _ _ _ (by rw [all u hu3, all w (.inl hw)]) (by rw [all w (.inl hw), all v hv3]) hcu hc)
        subst e
        exact ((M1.mem u).1 hu).2 w (.inl hw) hc
      · obtain ⟨u, hu, hcu⟩ := M1.covers w (.inr hw)
        have hu3 : u ∈ a ∨ u ∈ b ∨ u ∈ c := ((M1.mem u).1 hu).1.elim .inl (.inr ∘ .inl)
        have e := hd u (.inl hu) (cov_trans _ _ _ (by rw [all u hu3, all w (.inr (.inl hw))]) (by rw [all w (.inr (.inl hw)), all v hv3]) hcu hc)
        subst e
        exact ((M1.mem u).1 hu).2 w (.inr hw) hc
      · exact hd w (.inr hw) hc
    refine ⟨?_, fun w hw hc => ?_⟩
    · rcases hv3 with h | h | h
      · exact .inl h
      · exact .inr ((M3.mem v).2 ⟨.inl h, fun w hw hc => top w (hw.elim (.inr ∘ .inl) (.inr ∘ .inr)) hc⟩)
      · exact .inr ((M3.mem v).2 ⟨.inr h, fun w hw hc => top w (hw.elim (.inr ∘ .inl) (.inr ∘ .inr)) hc⟩)
    · exact top w (hw.elim .inl fun h => ((M3.mem w).1 h).1.elim (.inr ∘ .inl) (.inr ∘ .inr)) hc
  · rintro ⟨hv, hd⟩
    have hv3 : v ∈ a ∨ v ∈ b ∨ v ∈ c := hv.elim .inl fun h => ((M3.mem v).1 h).1.elim (.inr ∘ .inl) (.inr ∘ .inr)
    have top : ∀ w, w ∈ a ∨ w ∈ b ∨ w ∈ c → cov w.vec v.vec = true → w = v := by
      intro w hw hc
      rcases hw with hw | hw
      · exact hd w (.inl hw) hc
      · obtain ⟨u, hu, hcu⟩ := M3.covers w hw
        have hu3 : u ∈ a ∨ u ∈ b ∨ u ∈ c := ((M3.mem u).1 hu).1.elim (.inr ∘ .inl) (.inr ∘ .inr)
        have e := hd u (.inr hu) (cov_trans _ _ _ (by rw [all u hu3, all w (.inr hw)]) (by rw [all w (.inr hw), all v hv3]) hcu hc)
        subst e
        exact ((M3.mem u).1 hu).2 w hw hc
    refine ⟨?_, fun w hw hc => ?_⟩
    · rcases hv3 with h | h | h
      · exact .inl ((M1.mem v).2 ⟨.inl h, fun w hw hc => top w (hw.elim .inl (.inr ∘ .inl)) hc⟩)
      · exact .inl ((M1.mem v).2 ⟨.inr h, fun w hw hc => top w (hw.elim .inl (.inr ∘ .inl)) hc⟩)
      · exact .inr h
    · exact top w (hw.elim (fun h => ((M1.mem w).1 h).1.elim .inl (.inr ∘ .inl)) (.inr ∘ .inr)) hc
end Mv
end Go.Proofs.Ytidncnhhjfdifaa
