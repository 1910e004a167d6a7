/-
  Plain mathematics of the reference's Compose: its three loops (no program here).
-/
import Derived.Test.YtbgnckbgpiajjaaCpM
namespace Go.Proofs.Ytbgnckbgpiajjaa.Tp
open Go.RowKit
set_option maxRecDepth 4000

/-- the steps up to the old line i, k hunks done -/
def sk (p : List H) (k i : Nat) : List (Nat × ByteArray) := sp false 0 (p.take k) ++ ks (i - (lastE (-1) (p.take k)).toNat)
theorem ch_take {p : List H} : ∀ {prev : Int} (k : Nat), Ch prev p → Ch prev (p.take k) := by
  induction p with
  | nil => intro prev k _; rw [List.take_nil]; trivial
  | cons x p ih =>
    intro prev k g
    cases k with
    | zero => trivial
    | succ k => exact ⟨g.1, ih k g.2⟩
theorem sk_ol {p : List H} (hc : Ch (-1) p) (k i : Nat) (hi : (lastE (-1) (p.take k)).toNat ≤ i) : ol (sk p k i) = i := by
  have := ol_sp false (p.take k) 0 (-1) (ch_take k hc) rfl (by decide)
  unfold sk
  rw [ol_app, ol_keeps]
  omega
theorem sk_zero (p : List H) : sk p 0 0 = [] := by unfold sk; rw [List.take_zero]; rfl
theorem sk_keep {p : List H} (hc : Ch (-1) p) (k i : Nat) (hi : (lastE (-1) (p.take k)).toNat ≤ i) :
    it 0 (sk p k (i + 1)) = it 0 (sk p k i) ++ [((i : Int), ByteArray.empty)] ∧ gd 0 (sk p k (i + 1)) = gd 0 (sk p k i) := by
  have e : sk p k (i + 1) = sk p k i ++ ks 1 := by
    unfold sk
    rw [show i + 1 - (lastE (-1) (p.take k)).toNat = (i - (lastE (-1) (p.take k)).toNat) + 1 by omega, ks_add, List.append_assoc]
  rw [e, it_app, gd_app, sk_ol hc k i hi, gd_keeps, List.append_nil, Nat.zero_add]
  exact ⟨rfl, rfl⟩
theorem sk_hunk {p : List H} (hc : Ch (-1) p) (k i : Nat) (hk : k < p.length) (ha : p[k].at' = (i : Int)) (hi : (lastE (-1) (p.take k)).toNat ≤ i) :
    it 0 (sk p (k + 1) (i + p[k].old.length + 1)) = it 0 (sk p k i) ++ p[k].new.map (fun x => (-1, x)) ++ [(((i + p[k].old.length : Nat) : Int), ByteArray.empty)] ∧
      gd 0 (sk p (k + 1) (i + p[k].old.length + 1)) = gd 0 (sk p k i) ++ gd i (ds p[k].old) ∧ (lastE (-1) (p.take (k + 1))) = ((i + p[k].old.length : Nat) : Int) := by
  have el : lastE (-1) (p.take (k + 1)) = ((i + p[k].old.length : Nat) : Int) := by
    rw [List.take_succ_eq_append_getElem hk, lastE_snoc]
    unfold en
    omega
  have e : sk p (k + 1) (i + p[k].old.length + 1) = sk p k i ++ (hkS false p[k] ++ ks 1) := by
    have e1 := sp_snoc false (p.take k) p[k] 0 (-1) (ch_take k hc) rfl
    rw [← List.take_succ_eq_append_getElem hk] at e1
    have h2 : sk p (k + 1) (i + p[k].old.length + 1) = sp false 0 (p.take (k + 1)) ++ ks 1 := by
      unfold sk
      rw [el, show i + p[k].old.length + 1 - ((i + p[k].old.length : Nat) : Int).toNat = 1 by omega]
    rw [h2, e1]
    unfold sk
    rw [ha, Int.toNat_natCast]
    simp only [List.append_assoc]
  refine ⟨?_, ?_, el⟩
  · rw [e, it_app, it_app, it_hk, sk_ol hc k i hi, ol_hk, it_keeps, Nat.zero_add, List.append_assoc]
    simp
  · rw [e, gd_app, gd_app, sk_ol hc k i hi, gd_keeps, List.append_nil, Nat.zero_add]
    unfold hkS
    rw [if_neg (by simp), gd_app, gd_inss, List.append_nil]
theorem gd_snoc (l : List ByteArray) (x : ByteArray) (o : Nat) : gd o (ds (l ++ [x])) = gd o (ds l) ++ [(o + l.length, x)] := by
  have e : ds (l ++ [x]) = ds l ++ ds [x] := by unfold ds; rw [List.map_append]
  rw [e, gd_app, ol_dels]
  rfl
theorem sets_snoc (g : List ByteArray) (L : List (Nat × ByteArray)) (n : Nat) (x : ByteArray) : sets g (L ++ [(n, x)]) = (sets g L).set n x := by rw [sets_app]; rfl
theorem gd_hi (s : List (Nat × ByteArray)) : ∀ o, ∀ z ∈ gd o s, z.1 < o + ol s := by
  induction s with
  | nil => intro o z hz; cases hz
  | cons x s ih =>
    intro o z hz
    rw [gd_cons] at hz
    rw [ol_cons]
    split at hz
    · have := ih _ z hz; rename_i h; rw [if_pos (.inl h)]; omega
    · split at hz
      · rename_i h
        rw [if_pos (.inr h)]
        rcases List.mem_cons.1 hz with rfl | hz
        · dsimp only; omega
        · have := ih _ z hz; omega
      · have := ih _ z hz; omega
theorem it_hi (s : List (Nat × ByteArray)) : ∀ o : Nat, ∀ m ∈ it o s, m.1 < ((o + ol s : Nat) : Int) := by
  induction s with
  | nil => intro o z hz; cases hz
  | cons x s ih =>
    intro o z hz
    rw [it_cons] at hz
    rw [ol_cons]
    split at hz
    · rename_i h
      rw [if_pos (.inl h)]
      rcases List.mem_cons.1 hz with rfl | hz
      · dsimp only; omega
      · have := ih _ z hz; omega
    · split at hz
      · rename_i h; rw [if_pos (.inr h)]; have := ih _ z hz; omega
      · rcases List.mem_cons.1 hz with rfl | hz
        · dsimp only; omega
        · have := ih _ z hz; omega
theorem gd_up (s : List (Nat × ByteArray)) : ∀ o, (gd o s).Pairwise (fun a b => a.1 ≠ b.1) := by
  induction s with
  | nil => intro o; exact List.Pairwise.nil
  | cons x s ih =>
    intro o
    rw [gd_cons]
    split
    · exact ih _
    · split
      · refine List.Pairwise.cons (fun z hz => ?_) (ih _)
        have := gd_lo s (o + 1) z hz
        dsimp only
        omega
      · exact ih _
theorem rd_ol (s : List (Nat × ByteArray)) : Cd s → rd s = ol s := by
  induction s with
  | nil => intro _; rfl
  | cons x s ih =>
    intro h
    have h1 := h x (List.mem_cons_self ..)
    rw [rd_cons, ol_cons, ih (fun y hy => h y (List.mem_cons_of_mem _ hy))]
    by_cases e : x.1 = 2
    · rw [if_pos e, if_neg (by omega)]
    · rw [if_neg e, if_pos (by omega)]
/-- the first loop's end: what the next loops want of its lists -/
theorem ref_cm' {p q : List H} (hp : Vp p) (hq : Vp q) (g0 : List ByteArray) (hg0 : g0.length = 400) (i : Nat) (hi : i = 400) :
    120 ≤ (it 0 (sk p p.length i)).length ∧ (sets g0 (gd 0 (sk p p.length i))).length = 400 ∧ (∀ m ∈ it 0 (sk p p.length i), m.1 < 400) ∧
      ro (sets (sets g0 (gd 0 (sk p p.length i))) (qd (sp true 0 q) (it 0 (sk p p.length i)))) 0 [] (rn (sp true 0 q) (it 0 (sk p p.length i))) = cm p q ∧
      (rn (sp true 0 q) (it 0 (sk p p.length i))).Pairwise (fun a b => 0 ≤ a.1 → 0 ≤ b.1 → a.1 < b.1) := by
  subst hi
  have small : ∀ {r : List H}, Vp r → (lastE (-1) r).toNat ≤ 120 := fun {r} hr => by
    rcases List.eq_nil_or_concat r with e | ⟨l, x, e⟩
    · rw [e]; decide
    · rw [List.concat_eq_append] at e
      have hr' := hr.ch
      rw [e, ch_snoc] at hr'
      rw [e, lastE_snoc]
      have := hr'.2.end'
      omega
  have lp := small hp
  have lq := small hq
  have e0 : sk p p.length 400 = sp false 0 p ++ ks ((399 - (lastE (-1) p).toNat) + 1) := by
    unfold sk
    rw [List.take_length, show 400 - (lastE (-1) p).toNat = 399 - (lastE (-1) p).toNat + 1 by omega]
  have hol : ol (sk p p.length 400) = 400 := sk_ol hp.ch p.length 400 (by rw [List.take_length]; omega)
  have hr : rd (sp true 0 q) = (lastE (-1) q).toNat := by
    rw [rd_ol _ (cd_sp true q 0)]
    have := ol_sp true q 0 (-1) hq.ch rfl (by decide)
    omega
  have hlen : ∀ c, c ≤ (it 0 (sp false 0 p ++ ks c)).length := fun c => by
    rw [it_app, List.length_append, it_keeps, List.length_map, List.length_range]; omega
  have hr1 : rd (sp true 0 q) ≤ (it 0 (sp false 0 p ++ ks (399 - (lastE (-1) p).toNat))).length := by
    have := hlen (399 - (lastE (-1) p).toNat)
    omega
  have hr2 : rd (sp true 0 q) ≤ (it 0 (sk p p.length 400)).length := by
    rw [e0]
    have := hlen (399 - (lastE (-1) p).toNat + 1)
    omega
  have hl : (sets g0 (gd 0 (sk p p.length 400))).length = 400 := by rw [sets_len, hg0]
  have hm : ∀ m ∈ it 0 (sk p p.length 400), m.1 < 400 := fun m h => by
    have := it_hi _ 0 m h
    rw [hol] at this
    omega
  have hcd : Cd (sk p p.length 400) := by
    intro x hx
    rw [e0] at hx
    rcases List.mem_append.1 hx with hx | hx
    · exact cd_sp false p 0 x hx
    · rw [List.eq_of_mem_replicate hx]; exact Or.inl rfl
  have hl120 : 120 ≤ (it 0 (sk p p.length 400)).length := by
    rw [e0]
    have := hlen (399 - (lastE (-1) p).toNat + 1)
    omega
  refine ⟨hl120, hl, hm, ?_, ?_⟩
  · have key := ref_cm (p := p) (q := q) (399 - (lastE (-1) p).toNat) (sets g0 (gd 0 (sk p p.length 400))) hr1 (fun z hz => by
      rw [← e0] at hz
      have h1 := gd_hi _ 0 z hz
      rw [hol] at h1
      exact sets_at _ _ (gd_up _ 0) z hz (by omega)) (fun m h => by
      rw [← e0] at h
      have := hm m h
      rw [hl]
      omega)
    rw [← e0] at key
    exact key
  · rw [← it_comp hcd (cd_sp true q 0) hr2]
    exact it_up _ 0

/-! the items against the first patch, seen from its new text -/
theorem it_st (K : List H) (n : Nat) : ∀ (k o j : Nat) (y : Int × ByteArray), (it o (st 1 2 K k n))[j]? = some y → (∀ x, vd K (k + j) = some x → y = (-1, x)) ∧ (vd K (k + j) = none → 0 ≤ y.1) := by
  induction n with
  | zero => intro k o j y h; cases h
  | succ n ih =>
    intro k o j y h
    rw [st] at h
    unfold bl at h
    rw [List.append_assoc, it_app] at h
    have e1 : it o ((vi K k).map (fun x => ((1 : Nat), x))) = [] := it_dels _ o
    rw [e1, List.nil_append, it_app] at h
    cases hv : vd K k with
    | none =>
      rw [hv] at h
      cases j with
      | zero =>
        have : y = (((o + ol ((vi K k).map (fun x => ((1 : Nat), x))) : Nat) : Int), ByteArray.empty) := by
          simp only [it_cons] at h
          simpa using h.symm
        rw [Nat.add_zero, hv, this]
        exact ⟨fun x hx => (by cases hx), fun _ => (by dsimp only; omega)⟩
      | succ j =>
        have h' : (it (o + ol ((vi K k).map (fun x => ((1 : Nat), x))) + ol [((0 : Nat), ByteArray.empty)]) (st 1 2 K (k + 1) n))[j]? = some y := by
          simpa [it_cons, it] using h
        have := ih (k + 1) _ j y h'
        rwa [show k + 1 + j = k + (j + 1) by omega] at this
    | some x =>
      rw [hv] at h
      cases j with
      | zero =>
        have : y = (-1, x) := by
          simp only [it_cons] at h
          simpa using h.symm
        rw [Nat.add_zero, hv, this]
        exact ⟨fun z hz => (by rw [Option.some.inj hz]), fun hz => (by cases hz)⟩
      | succ j =>
        have h' : (it (o + ol ((vi K k).map (fun x => ((1 : Nat), x))) + ol [((2 : Nat), x)]) (st 1 2 K (k + 1) n))[j]? = some y := by
          simpa [it_cons, it] using h
        have := ih (k + 1) _ j y h'
        rwa [show k + 1 + j = k + (j + 1) by omega] at this
theorem item_vd {p : List H} (hp : Ch (-1) p) (c j : Nat) (hj : j < (it 0 (sp false 0 p ++ ks c)).length) :
    (∀ x, vd (iv 0 p) j = some x → (it 0 (sp false 0 p ++ ks c))[j] = (-1, x)) ∧ (vd (iv 0 p) j = none → 0 ≤ ((it 0 (sp false 0 p ++ ks c))[j]).1) := by
  have gp : Gp (-1) (iv 0 p) := (ch_gp hp).iv 0
  obtain ⟨e, he⟩ := st_sq 1 2 (iv 0 p) (-1) 0 ((lastE (-1) (iv 0 p)).toNat + 1 + (it 0 (sp false 0 p)).length + c) gp (by decide) (by decide) (by omega)
  have e2 : sq 1 2 0 (iv 0 p) = sp false 0 p := sq_iv p 0 0 0 (-1) hp (by decide) (by decide)
  rw [e2] at he
  have len : ∀ (K : List H) (n k o : Nat), (it o (st 1 2 K k n)).length = n := by
    intro K n
    induction n with
    | zero => intro k o; rfl
    | succ n ih =>
      intro k o
      rw [st]
      unfold bl
      rw [List.append_assoc, it_app, List.length_append, it_app, List.length_append, ih]
      have e1 : it o ((vi K k).map (fun x => ((1 : Nat), x))) = [] := it_dels _ o
      rw [e1]
      cases vd K k <;> simp [it] <;> omega
  have hl := len (iv 0 p) ((lastE (-1) (iv 0 p)).toNat + 1 + (it 0 (sp false 0 p)).length + c) 0 0
  rw [he, it_app, List.length_append, it_keeps, List.length_map, List.length_range] at hl
  have hce : c ≤ e := by omega
  have hs : (it 0 (st 1 2 (iv 0 p) 0 ((lastE (-1) (iv 0 p)).toNat + 1 + (it 0 (sp false 0 p)).length + c)))[j]? = some ((it 0 (sp false 0 p ++ ks c))[j]) := by
    rw [he, show e = c + (e - c) by omega, ks_add, ← List.append_assoc, it_app, List.getElem?_append_left hj, List.getElem?_eq_getElem hj]
  have := it_st (iv 0 p) _ 0 0 j _ hs
  rwa [Nat.zero_add] at this
theorem item_sk {p : List H} (hp : Ch (-1) p) (i j : Nat) (hj : j < (it 0 (sk p p.length i)).length) :
    (∀ x, vd (iv 0 p) j = some x → (it 0 (sk p p.length i))[j] = (-1, x)) ∧ (vd (iv 0 p) j = none → 0 ≤ ((it 0 (sk p p.length i))[j]).1) := by
  have e : sk p p.length i = sp false 0 p ++ ks (i - (lastE (-1) p).toNat) := by unfold sk; rw [List.take_length]
  have := item_vd hp (i - (lastE (-1) p).toNat) j (by rw [← e]; exact hj)
  simp only [← e] at this
  exact this

/-! the second loop -/
structure P2 (q : List H) (M : List (Int × ByteArray)) (i a : Nat) (L : List (Int × ByteArray)) (Q : List (Nat × ByteArray)) : Prop where
  rn' : ∀ s, rn (sp true 0 (q.take i) ++ s) M = L ++ rn s (M.drop a)
  qd' : ∀ s, qd (sp true 0 (q.take i) ++ s) M = Q ++ qd s (M.drop a)
  at' : a = (lastE (-1) (q.take i)).toNat
theorem P2.start (q : List H) (M : List (Int × ByteArray)) : P2 q M 0 0 [] [] := ⟨fun _ => rfl, fun _ => rfl, rfl⟩
theorem P2.next {q : List H} {M : List (Int × ByteArray)} {i a : Nat} {L : List (Int × ByteArray)} {Q : List (Nat × ByteArray)} (h : P2 q M i a L Q) (hc : Ch (-1) q) (hi : i < q.length) (hm : (en q[i]).toNat ≤ M.length) :
    a ≤ q[i].at'.toNat ∧ q[i].at'.toNat + q[i].old.length ≤ M.length ∧ P2 q M (i + 1) (en q[i]).toNat (L ++ (M.drop a).take (q[i].at'.toNat - a) ++ q[i].new.map (fun x => (-1, x))) (Q ++ qh q[i].old (M.drop q[i].at'.toNat)) := by
  have hs := sp_snoc true (q.take i) q[i] 0 (-1) (ch_take i hc) rfl
  rw [← List.take_succ_eq_append_getElem hi, ← h.at'] at hs
  have hc2 : Ch (-1) (q.take (i + 1)) := ch_take (i + 1) hc
  rw [List.take_succ_eq_append_getElem hi, ch_snoc] at hc2
  have g1 := hc2.2.gap
  have g2 := hc2.2.lo
  have e1 : (en q[i] : Int) = q[i].at' + q[i].old.length := rfl
  have ha := h.at'
  have hle : a ≤ q[i].at'.toNat := by omega
  have hae : (en q[i]).toNat = q[i].at'.toNat + q[i].old.length := by omega
  refine ⟨hle, by omega, fun s => ?_, fun s => ?_, by rw [List.take_succ_eq_append_getElem hi, lastE_snoc]⟩
  · rw [hs, List.append_assoc, h.rn', List.append_assoc, rn_keeps _ _ _ (by rw [List.length_drop]; omega), List.drop_drop, show a + (q[i].at'.toNat - a) = q[i].at'.toNat by omega, rn_hk _ _ _ _ (by rw [List.length_drop]; omega), List.drop_drop, hae]
    simp only [List.append_assoc]
  · rw [hs, List.append_assoc, h.qd', List.append_assoc, qd_keeps _ _ _ (by rw [List.length_drop]; omega), List.drop_drop, show a + (q[i].at'.toNat - a) = q[i].at'.toNat by omega, qd_hk _ _ _ _ (by rw [List.length_drop]; omega), List.drop_drop, hae]
    simp only [List.append_assoc]
theorem P2.done {q : List H} {M : List (Int × ByteArray)} {a : Nat} {L : List (Int × ByteArray)} {Q : List (Nat × ByteArray)} (h : P2 q M q.length a L Q) : rn (sp true 0 q) M = L ++ M.drop a ∧ qd (sp true 0 q) M = Q := by
  have h1 := h.rn' []
  have h2 := h.qd' []
  rw [List.take_length, List.append_nil] at h1 h2
  refine ⟨h1, h2.trans ?_⟩
  cases M.drop a <;> simp [qd]
theorem qh_snoc (l : List ByteArray) (z : ByteArray) : ∀ (L : List (Int × ByteArray)) (h : l.length < L.length), qh (l ++ [z]) L = qh l L ++ (if 0 ≤ (L[l.length]).1 then [((L[l.length]).1.toNat, z)] else []) := by
  induction l with
  | nil =>
    intro L h
    cases L with
    | nil => simp at h
    | cons m L => simp [qh]
  | cons x l ih =>
    intro L h
    cases L with
    | nil => simp at h
    | cons m L =>
      rw [List.cons_append, qh, qh, ih L (by simpa using h), List.append_assoc]
      rfl
theorem rn_mem (s : List (Nat × ByteArray)) : ∀ (l : List (Int × ByteArray)), ∀ y ∈ rn s l, y ∈ l ∨ y.1 = -1 := by
  induction s with
  | nil => intro l y hy; exact .inl hy
  | cons x s ih =>
    intro l y hy
    by_cases h2 : x.1 = 2
    · rw [rn_ins _ _ h2] at hy
      rcases List.mem_cons.1 hy with rfl | hy
      · exact .inr rfl
      · exact ih l y hy
    · cases l with
      | nil => simp [rn, h2] at hy
      | cons m l =>
        by_cases h0 : x.1 = 0
        · rw [rn_keep _ _ _ h0] at hy
          rcases List.mem_cons.1 hy with rfl | hy
          · exact .inl (List.mem_cons_self ..)
          · rcases ih l y hy with h | h
            · exact .inl (List.mem_cons_of_mem _ h)
            · exact .inr h
        · have e : rn (x :: s) (m :: l) = rn s l := by simp [rn, h2, h0]
          rw [e] at hy
          rcases ih l y hy with h | h
          · exact .inl (List.mem_cons_of_mem _ h)
          · exact .inr h

/-! the third loop -/
structure P3 (g : List ByteArray) (Lst : List (Int × ByteArray)) (i fr : Nat) (fresh : List ByteArray) (hs : List H) : Prop where
  ro' : hs ++ ro g fr fresh (Lst.drop i) = ro g 0 [] Lst
  lo : ∀ y ∈ Lst.drop i, 0 ≤ y.1 → (fr : Int) ≤ y.1
theorem P3.start (g : List ByteArray) (Lst : List (Int × ByteArray)) : P3 g Lst 0 0 [] [] := ⟨rfl, fun _ _ h => h⟩
theorem P3.ins {g : List ByteArray} {Lst : List (Int × ByteArray)} {i fr : Nat} {fresh : List ByteArray} {hs : List H} (h : P3 g Lst i fr fresh hs) (hi : i < Lst.length) (hn : (Lst[i]).1 < 0) : P3 g Lst (i + 1) fr (fresh ++ [(Lst[i]).2]) hs := by
  have e := List.drop_eq_getElem_cons hi
  refine ⟨?_, fun y hy => h.lo y (by rw [e]; exact List.mem_cons_of_mem _ hy)⟩
  rw [← h.ro', e, ro, if_pos hn]
theorem P3.keep {g : List ByteArray} {Lst : List (Int × ByteArray)} {i fr : Nat} {fresh : List ByteArray} {hs : List H} (h : P3 g Lst i fr fresh hs) (hp : Lst.Pairwise (fun a b => 0 ≤ a.1 → 0 ≤ b.1 → a.1 < b.1)) (hi : i < Lst.length) (hn : ¬ (Lst[i]).1 < 0) :
    fr ≤ (Lst[i]).1.toNat ∧ P3 g Lst (i + 1) ((Lst[i]).1.toNat + 1) [] (hs ++ (if fr < (Lst[i]).1.toNat ∨ 0 < fresh.length then [⟨(fr : Int), mid g fr (Lst[i]).1.toNat, fresh⟩] else [])) := by
  have e := List.drop_eq_getElem_cons hi
  have h0 := h.lo (Lst[i]) (by rw [e]; exact List.mem_cons_self ..) (by omega)
  refine ⟨by omega, ?_, fun y hy hy0 => ?_⟩
  · rw [← h.ro', e, ro, if_neg hn, List.append_assoc]
  · have hp2 := hp.drop (i := i)
    rw [e] at hp2
    have := (List.pairwise_cons.1 hp2).1 y hy (by omega) hy0
    omega
theorem P3.done {g : List ByteArray} {Lst : List (Int × ByteArray)} {fr : Nat} {fresh : List ByteArray} {hs : List H} (h : P3 g Lst Lst.length fr fresh hs) : hs = ro g 0 [] Lst := by
  have := h.ro'
  rw [List.drop_length, ro, List.append_nil] at this
  exact this
/-! sizes of what is deleted -/
theorem sets_small {B : Nat} (L : List (Nat × ByteArray)) : ∀ g : List ByteArray, (∀ x ∈ g, x.size ≤ B) → (∀ z ∈ L, z.2.size ≤ B) → ∀ x ∈ sets g L, x.size ≤ B := by
  induction L with
  | nil => intro g h _; exact h
  | cons z L ih =>
    intro g h hL
    refine ih (g.set z.1 z.2) (fun x hx => ?_) (fun y hy => hL y (List.mem_cons_of_mem _ hy))
    rcases List.mem_or_eq_of_mem_set hx with hx | rfl
    · exact h x hx
    · exact hL z (List.mem_cons_self ..)
theorem gd_mem1 (s : List (Nat × ByteArray)) : ∀ o, ∀ z ∈ gd o s, ((1 : Nat), z.2) ∈ s := by
  induction s with
  | nil => intro o z hz; cases hz
  | cons x s ih =>
    intro o z hz
    rw [gd_cons] at hz
    split at hz
    · exact List.mem_cons_of_mem _ (ih _ z hz)
    · split at hz
      · rename_i h
        rcases List.mem_cons.1 hz with rfl | hz
        · have e : x = ((1 : Nat), x.2) := Prod.ext h rfl
          dsimp only
          rw [← e]
          exact List.mem_cons_self ..
        · exact List.mem_cons_of_mem _ (ih _ z hz)
      · exact List.mem_cons_of_mem _ (ih _ z hz)
theorem qd_mem1 (q : List (Nat × ByteArray)) : ∀ l, ∀ z ∈ qd q l, ((1 : Nat), z.2) ∈ q := by
  induction q with
  | nil => intro l z hz; cases l <;> cases hz
  | cons y q ih =>
    intro l z hz
    by_cases h2 : y.1 = 2
    · rw [qd_ins _ _ h2] at hz
      exact List.mem_cons_of_mem _ (ih l z hz)
    · cases l with
      | nil => simp [qd, h2] at hz
      | cons m l =>
        rw [qd_cons _ _ _ h2] at hz
        rcases List.mem_append.1 hz with hz | hz
        · split at hz
          · rename_i h
            rw [List.mem_singleton.1 hz]
            have e : y = ((1 : Nat), y.2) := Prod.ext h.1 rfl
            dsimp only
            rw [← e]
            exact List.mem_cons_self ..
          · cases hz
        · exact List.mem_cons_of_mem _ (ih l z hz)
theorem sp_mem1 (b : Bool) (hs : List H) : ∀ k x, ((1 : Nat), x) ∈ sp b k hs → ∃ h ∈ hs, x ∈ h.old := by
  induction hs with
  | nil => intro k x hx; cases hx
  | cons h r ih =>
    intro k x hx
    rw [sp] at hx
    rcases List.mem_append.1 hx with hx | hx
    · have := List.eq_of_mem_replicate hx
      injection this with e _
      cases e
    · rcases List.mem_append.1 hx with hx | hx
      · refine ⟨h, List.mem_cons_self .., ?_⟩
        unfold hkS ds is at hx
        split at hx <;> rcases List.mem_append.1 hx with hx | hx <;> obtain ⟨y, hy, e⟩ := List.mem_map.1 hx <;> injection e with e1 e2 <;> first | (rw [← e2]; exact hy) | cases e1
      · obtain ⟨y, hy, e⟩ := ih _ x hx
        exact ⟨y, List.mem_cons_of_mem _ hy, e⟩
theorem old_small {hs : List H} (hv : Vp hs) {h : H} (hh : h ∈ hs) {x : ByteArray} (hx : x ∈ h.old) : x.size ≤ 140737488351232 := vc_small (ch_new hv.ch h hh).2 x hx
theorem gd_small {p : List H} (hp : Vp p) (k i o : Nat) : ∀ z ∈ gd o (sk p k i), z.2.size ≤ 140737488351232 := fun z hz => by
  have := gd_mem1 _ o z hz
  unfold sk at this
  rcases List.mem_append.1 this with h | h
  · obtain ⟨y, hy, e⟩ := sp_mem1 _ _ _ _ h
    exact old_small hp (List.mem_of_mem_take hy) e
  · have := List.eq_of_mem_replicate h
    injection this with e _
    cases e
theorem qd_small {q : List H} (hq : Vp q) (M : List (Int × ByteArray)) : ∀ z ∈ qd (sp true 0 q) M, z.2.size ≤ 140737488351232 := fun z hz => by
  obtain ⟨y, hy, e⟩ := sp_mem1 _ _ _ _ (qd_mem1 _ M z hz)
  exact old_small hq hy e
end Go.Proofs.Ytbgnckbgpiajjaa.Tp
