
/-
  Plain mathematics of multi-value registers: codes, the order of vectors, the merge.
-/
namespace Go.Proofs.Ytidncnhhjfdifaa
namespace Mv
structure V where
  val : Int
  vec : List Int
  deriving DecidableEq
instance : Inhabited V := ⟨⟨0, []⟩⟩
def c3 (a b : Int) : Int := if a < b then -1 else if b < a then 1 else 0
theorem c3_neg {a b : Int} : c3 a b < 0 ↔ a < b := by
  unfold c3; split
  · omega
  · split <;> omega
theorem c3_zero {a b : Int} : c3 a b = 0 ↔ a = b := by
  unfold c3; split
  · omega
  · split <;> omega
def out (n : Int) : Bool := decide (n < 0) || decide (1000000000 < n)
def cov : List Int → List Int → Bool
  | x :: a, y :: b => !decide (x < y) && cov a b
  | _, _ => true
def cmpL : List Int → List Int → Int
  | [], [] => 0
  | [], _ :: _ => -1
  | _ :: _, [] => 1
  | x :: a, y :: b => if c3 x y = 0 then cmpL a b else c3 x y
def sup (a b : List Int) : Bool := cov a b && !cov b a
/-- the greatest of a list that is not empty -/
def mxL : List Int → Int
  | [] => 0
  | x :: r => r.foldl max x
def last (e : List V) : Option V := e.getLast?
def inOrd (v : V) (e : List V) : Bool := match e.getLast? with | none => true | some x => decide (cmpL x.vec v.vec < 0)
/-- the code of a value behind the earlier ones -/
def cd (v : V) (e : List V) : Int :=
  if out v.val = true then 3 else if v.vec.length ≠ 6 then 9 else if v.vec.any out = true then 3
  else if mxL v.vec = 0 then 5 else if inOrd v e = false then 5 else if e.any (fun x => cov v.vec x.vec) = true then 19 else 0
def fl : List V → List V → Nat → Int × Int
  | _, [], _ => (0, 0)
  | e, v :: r, i => if cd v e = 0 then fl (e ++ [v]) r (i + 1) else (cd v e, i)
def vCI (l : List V) : Int × Int := if 16 < l.length then (2, -1) else fl [] l 0
def vC (l : List V) : Int := (vCI l).1
def vI (l : List V) : Int := (vCI l).2
theorem fl_next {l : List V} {k : Nat} (h : k < l.length) : fl (l.take k) (l.drop k) k = if cd l[k] (l.take k) = 0 then fl (l.take (k + 1)) (l.drop (k + 1)) (k + 1) else (cd l[k] (l.take k), k) := by
  rw [List.drop_eq_getElem_cons h, fl, List.take_succ_eq_append_getElem h]
/-- what a valid register is -/
structure Okv (v : V) : Prop where
  v0 : 0 ≤ v.val
  v1 : v.val ≤ 1000000000
  len : v.vec.length = 6
  lo : ∀ n ∈ v.vec, 0 ≤ n
  hi : ∀ n ∈ v.vec, n ≤ 1000000000
  pos : ∃ n ∈ v.vec, n ≠ 0
def lt (v w : V) : Prop := cmpL v.vec w.vec < 0
structure Val (l : List V) : Prop where
  len : l.length ≤ 16
  each : ∀ v ∈ l, Okv v
  srt : l.Pairwise lt
  anti : l.Pairwise (fun v w => cov w.vec v.vec = false)
theorem out_false {n : Int} : out n = false ↔ 0 ≤ n ∧ n ≤ 1000000000 := by unfold out; simp
theorem fold_max (r : List Int) : ∀ x, x ≤ r.foldl max x ∧ (∀ n ∈ r, n ≤ r.foldl max x) ∧ (r.foldl max x = x ∨ r.foldl max x ∈ r) := by
  induction r with
  | nil => intro x; exact ⟨Int.le_refl _, (fun _ h => by cases h), .inl rfl⟩
  | cons y r ih =>
    intro x
    obtain ⟨h1, h2, h3⟩ := ih (max x y)
    refine ⟨?_, ?_, ?_⟩
    · exact Int.le_trans (Int.le_max_left x y) h1
    · intro n hn
      rcases List.mem_cons.1 hn with rfl | hn
      · exact Int.le_trans (Int.le_max_right x n) h1
      · exact h2 n hn
    · rcases h3 with h3 | h3
      · show r.foldl max (max x y) = x ∨ r.foldl max (max x y) ∈ y :: r
        rw [h3]
        by_cases hxy : x ≤ y
        · right; rw [Int.max_eq_right hxy]; exact List.mem_cons_self ..
        · left; rw [Int.max_eq_left (by omega)]
      · exact .inr (List.mem_cons_of_mem _ h3)
theorem mxL_zero {l : List Int} (hl : l.length = 6) (h0 : ∀ n ∈ l, 0 ≤ n) : mxL l = 0 ↔ ¬ ∃ n ∈ l, n ≠ 0 := by
  match l, hl with
  | x :: r, _ =>
    obtain ⟨h1, h2, h3⟩ := fold_max r x
    rw [show mxL (x :: r) = r.foldl max x from rfl]
    constructor
    · rintro h ⟨n, hn, hne⟩
      rw [h] at h1 h2
      have := h0 n hn
      rcases List.mem_cons.1 hn with rfl | hn
      · omega
      · have := h2 n hn; omega
    · intro h
      apply Decidable.byContradiction
      intro hne
      apply h
      rcases h3 with h3 | h3
      · exact ⟨x, List.mem_cons_self .., by rwa [h3] at hne⟩
      · exact ⟨_, List.mem_cons_of_mem _ h3, hne⟩
theorem okv_of {v : V} : Okv v ↔ out v.val = false ∧ v.vec.length = 6 ∧ v.vec.any out = false ∧ mxL v.vec ≠ 0 := by
  constructor
  · intro h
    refine ⟨out_false.2 ⟨h.v0, h.v1⟩, h.len, ?_, fun e => (mxL_zero h.len h.lo).1 e h.pos⟩
    rw [List.any_eq_false]
    intro n hn
    rw [out_false.2 ⟨h.lo n hn, h.hi n hn⟩]; decide
  · rintro ⟨h1, h2, h3, h4⟩
    rw [List.any_eq_false] at h3
    have h5 : ∀ n ∈ v.vec, 0 ≤ n ∧ n ≤ 1000000000 := fun n hn => out_false.1 (by simpa using h3 n hn)
    have h6 := out_false.1 h1
    exact ⟨h6.1, h6.2, h2, fun n hn => (h5 n hn).1, fun n hn => (h5 n hn).2, Decidable.byContradiction fun h => h4 ((mxL_zero h2 fun n hn => (h5 n hn).1).2 h)⟩
theorem cmpL_self (a : List Int) : cmpL a a = 0 := by
  induction a with
  | nil => rfl
  | cons x a ih => unfold cmpL; rw [if_pos (c3_zero.2 rfl)]; exact ih
theorem cmpL_eq : ∀ (a b : List Int), cmpL a b = 0 → a = b
  | [], [], _ => rfl
  | [], _ :: _, h => by cases h
  | _ :: _, [], h => by cases h
  | x :: a, y :: b, h => by
    unfold cmpL at h
    by_cases e : c3 x y = 0
    · rw [if_pos e] at h
      rw [c3_zero.1 e, cmpL_eq a b h]
    · rw [if_neg e] at h; exact (e h).elim
theorem cmpL_trans : ∀ (a b c : List Int), cmpL a b < 0 → cmpL b c < 0 → cmpL a c < 0
  | [], [], _, h, _ => absurd h (by simp [cmpL])
  | [], _ :: _, [], _, h => absurd h (by simp [cmpL])
  | [], _ :: _, _ :: _, _, _ => by simp [cmpL]
  | _ :: _, [], _, h, _ => absurd h (by simp [cmpL])
  | _ :: _, _ :: _, [], _, h => absurd h (by simp [cmpL])
  | x :: a, y :: b, z :: c, h1, h2 => by
    unfold cmpL at *
    by_cases e1 : c3 x y = 0
    · rw [if_pos e1] at h1
      rw [c3_zero] at e1
      subst e1
      by_cases e2 : c3 x z = 0
      · rw [if_pos e2] at h2 ⊢; exact cmpL_trans a b c h1 h2
      · rw [if_neg e2] at h2 ⊢; exact h2
    · rw [if_neg e1] at h1
      rw [c3_neg] at h1
      by_cases e2 : c3 y z = 0
      · rw [c3_zero] at e2
        subst e2
        rw [if_neg (by rw [c3_zero]; omega)]
        rw [c3_neg]; exact h1
      · rw [if_neg e2, c3_neg] at h2
        rw [if_neg (by rw [c3_zero]; omega), c3_neg]; omega
theorem cmpL_total : ∀ (a b : List Int), cmpL a b < 0 ∨ cmpL b a < 0 ∨ a = b
  | [], [] => .inr (.inr rfl)
  | [], _ :: _ => .inl (by simp [cmpL])
  | _ :: _, [] => .inr (.inl (by simp [cmpL]))
  | x :: a, y :: b => by
    unfold cmpL
    by_cases e1 : c3 x y = 0
    · rw [if_pos e1]
      rw [c3_zero] at e1
      subst e1
      rw [if_pos (c3_zero.2 rfl)]
      rcases cmpL_total a b with h | h | h
      · exact .inl h
      · exact .inr (.inl h)
      · exact .inr (.inr (by rw [h]))
    · rw [if_neg e1]
      have e2 : ¬ c3 y x = 0 := by rw [c3_zero] at *; omega
      rw [if_neg e2, c3_neg, c3_neg]
      rw [c3_zero] at e1
      omega
theorem lt_irrefl (a : List Int) : ¬ cmpL a a < 0 := by rw [cmpL_self]; decide
theorem cov_refl (a : List Int) : cov a a = true := by
  induction a with
  | nil => rfl
  | cons x a ih => unfold cov; rw [ih]; simp
theorem cov_trans : ∀ (a b c : List Int), a.length = b.length → b.length = c.length → cov a b = true → cov b c = true → cov a c = true
  | [], _, _, _, _, _, _ => rfl
  | _ :: _, _, [], _, _, _, _ => rfl
  | x :: a, y :: b, z :: c, l1, l2, h1, h2 => by
    unfold cov at *
    simp only [Bool.and_eq_true, Bool.not_eq_true', decide_eq_false_iff_not] at *
    exact ⟨by omega, cov_trans a b c (by simpa using l1) (by simpa using l2) h1.2 h2.2⟩
theorem cov_anti : ∀ (a b : List Int), a.length = b.length → cov a b = true → cov b a = true → a = b
  | [], [], _, _, _ => rfl
  | x :: a, y :: b, l, h1, h2 => by
    unfold cov at *
    simp only [Bool.and_eq_true, Bool.not_eq_true', decide_eq_false_iff_not] at *
    rw [cov_anti a b (by simpa using l) h1.2 h2.2, show x = y by omega]
theorem cov_lt : ∀ (a b : List Int), a.length = b.length → cmpL a b < 0 → cov a b = false
  | [], [], _, h => absurd h (by decide)
  | x :: a, y :: b, l, h => by
    unfold cmpL at h
    unfold cov
    by_cases e : c3 x y = 0
    · rw [if_pos e] at h
      rw [cov_lt a b (by simpa using l) h, Bool.and_false]
    · rw [if_neg e, c3_neg] at h
      simp [h]
theorem sup_iff {a b : List Int} (hl : a.length = b.length) : sup a b = true ↔ cov a b = true ∧ a ≠ b := by
  unfold sup
  rw [Bool.and_eq_true, Bool.not_eq_true']
  constructor
  · rintro ⟨h1, h2⟩
    exact ⟨h1, fun e => by subst e; rw [cov_refl] at h2; cases h2⟩
  · rintro ⟨h1, h2⟩
    refine ⟨h1, ?_⟩
    cases h : cov b a with
    | false => rfl
    | true => exact (h2 (cov_anti a b hl h1 h)).elim
theorem pw_append {R : V → V → Prop} {e : List V} {v : V} : (e ++ [v]).Pairwise R ↔ e.Pairwise R ∧ ∀ x ∈ e, R x v := by
  rw [List.pairwise_append]
  constructor
  · rintro ⟨h1, _, h3⟩; exact ⟨h1, fun x hx => h3 x hx v (List.mem_singleton.2 rfl)⟩
  · rintro ⟨h1, h2⟩; exact ⟨h1, List.pairwise_singleton .., fun x hx y hy => by rw [List.mem_singleton.1 hy]; exact h2 x hx⟩
theorem last_max {e : List V} (h : e.Pairwise lt) {x : V} (hx : e.getLast? = some x) : ∀ y ∈ e, y = x ∨ lt y x := by
  obtain ⟨r, rfl⟩ : ∃ r, e = r ++ [x] := by
    rw [List.getLast?_eq_some_iff] at hx
    exact hx
  intro y hy
  rcases List.mem_append.1 hy with hy | hy
  · exact .inr ((pw_append.1 h).2 y hy)
  · exact .inl (List.mem_singleton.1 hy)
theorem inOrd_iff {e : List V} (h : e.Pairwise lt) {v : V} : inOrd v e = true ↔ ∀ y ∈ e, lt y v := by
  unfold inOrd
  cases hl : e.getLast? with
  | none => rw [List.getLast?_eq_none_iff.1 hl]; simp
  | some x =>
    dsimp only
    rw [decide_eq_true_eq]
    constructor
    · intro hx y hy
      rcases last_max h hl y hy with rfl | hy
      · exact hx
      · exact cmpL_trans _ _ _ hy hx
    · intro hy
      exact hy x (List.mem_of_getLast? hl)
theorem cd_zero {e : List V} (h : e.Pairwise lt) {v : V} : cd v e = 0 ↔ Okv v ∧ (∀ y ∈ e, lt y v) ∧ ∀ y ∈ e, cov v.vec y.vec = false := by
  rw [okv_of, ← inOrd_iff h]
  unfold cd
  constructor
  · intro hc
    split at hc
    · cases hc
    split at hc
    · cases hc
    split at hc
    · cases hc
    split at hc
    · cases hc
    split at hc
    · cases hc
    split at hc
    · cases hc
    rename_i h1 h2 h3 h4 h5 h6
    exact ⟨⟨by simpa using h1, by simpa using h2, by simpa using h3, h4⟩, by simpa using h5, by simpa using h6⟩
  · rintro ⟨⟨h1, h2, h3, h4⟩, h5, h6⟩
    rw [if_neg (by rw [h1]; decide), if_neg (by simpa using h2), if_neg (by rw [h3]; decide), if_neg h4, if_neg (by rw [h5]; decide), if_neg (by simpa using h6)]
theorem fl_zero : ∀ (r e : List V) (i : Nat), e.Pairwise lt → (∀ v ∈ e, Okv v) → e.Pairwise (fun v w => cov w.vec v.vec = false) →
    ((fl e r i).1 = 0 ↔ (∀ v ∈ e ++ r, Okv v) ∧ (e ++ r).Pairwise lt ∧ (e ++ r).Pairwise (fun v w => cov w.vec v.vec = false))
  | [], e, i, h1, h2, h3 => by simp [fl, h1, h3]; exact h2
  | v :: r, e, i, h1, h2, h3 => by
    unfold fl
    by_cases hc : cd v e = 0
    · rw [if_pos hc]
      have hz := (cd_zero h1).1 hc
      rw [fl_zero r (e ++ [v]) (i + 1) (pw_append.2 ⟨h1, hz.2.1⟩) (fun x hx => ?_) (pw_append.2 ⟨h3, hz.2.2⟩), List.append_assoc, List.singleton_append]
      rcases List.mem_append.1 hx with hx | hx
      · exact h2 x hx
      · rw [List.mem_singleton.1 hx]; exact hz.1
    · rw [if_neg hc]
      constructor
      · intro h; exact (hc h).elim
      · rintro ⟨g1, g2, g3⟩
        rw [List.pairwise_append] at g2 g3
        exact (hc ((cd_zero h1).2 ⟨g1 v (by simp), fun y hy => g2.2.2 y hy v (List.mem_cons_self ..), fun y hy => g3.2.2 y hy v (List.mem_cons_self ..)⟩)).elim
theorem val_iff (l : List V) : vC l = 0 ↔ Val l := by
  unfold vC vCI
  by_cases h : 16 < l.length
  · rw [if_pos h]
    exact ⟨(fun h => by cases h), (fun hv => by have := hv.len; omega)⟩
  · rw [if_neg h, fl_zero l [] 0 List.Pairwise.nil (fun _ h => by cases h) List.Pairwise.nil, List.nil_append]
    exact ⟨fun ⟨h1, h2, h3⟩ => ⟨by omega, h1, h2, h3⟩, fun h => ⟨h.each, h.srt, h.anti⟩⟩
theorem fl_i : ∀ (r e : List V) (i : Nat), (fl e r i).1 = 0 → (fl e r i).2 = 0
  | [], _, _, _ => rfl
  | v :: r, e, i, h => by
    unfold fl at *
    by_cases hc : cd v e = 0
    · rw [if_pos hc] at *; exact fl_i r _ _ h
    · rw [if_neg hc] at *; exact (hc h).elim
theorem vI_zero {l : List V} (h : vC l = 0) : vI l = 0 := by
  unfold vC vI vCI at *
  split at h
  · cases h
  · rename_i hl
    rw [if_neg hl]; exact fl_i _ _ _ h
theorem val_nil : Val [] := ⟨by simp, (fun _ h => by cases h), List.Pairwise.nil, List.Pairwise.nil⟩
/-- two values of a valid register, one of which covers the other, are one -/
theorem Val.one {l : List V} (h : Val l) {v w : V} (hv : v ∈ l) (hw : w ∈ l) (hc : cov v.vec w.vec = true) : v = w := by
  obtain ⟨i, hi, rfl⟩ := List.mem_iff_getElem.1 hv
  obtain ⟨j, hj, rfl⟩ := List.mem_iff_getElem.1 hw
  rcases Nat.lt_trichotomy i j with hij | rfl | hij
  · have := List.pairwise_iff_getElem.1 h.srt i j hi hj hij
    rw [cov_lt _ _ (by rw [(h.each _ hv).len, (h.each _ hw).len]) this] at hc
    cases hc
  · rfl
  · have := List.pairwise_iff_getElem.1 h.anti j i hj hi hij
    rw [this] at hc
    cases hc
theorem srt_one {l m : List V} (h1 : l.Pairwise lt) (h2 : m.Pairwise lt) (h : ∀ v, v ∈ l ↔ v ∈ m) : l = m := by
  induction l generalizing m with
  | nil =>
    cases m with
    | nil => rfl
    | cons y m => exact absurd ((h y).2 (List.mem_cons_self ..)) (by simp)
  | cons x l ih =>
    cases m with
    | nil => exact absurd ((h x).1 (List.mem_cons_self ..)) (by simp)
    | cons y m =>
      rw [List.pairwise_cons] at h1 h2
      have e : x = y := by
        rcases List.mem_cons.1 ((h x).1 (List.mem_cons_self ..)) with e | hx
        · exact e
        rcases List.mem_cons.1 ((h y).2 (List.mem_cons_self ..)) with e | hy
        · exact e.symm
        exact (lt_irrefl _ (cmpL_trans _ _ _ (h1.1 y hy) (h2.1 x hx))).elim
      subst e
      rw [ih h1.2 h2.2 fun v => ?_]
      constructor
      · intro hv
        rcases List.mem_cons.1 ((h v).1 (List.mem_cons_of_mem _ hv)) with rfl | hv'
        · exact (lt_irrefl _ (h1.1 v hv)).elim
        · exact hv'
      · intro hv
        rcases List.mem_cons.1 ((h v).2 (List.mem_cons_of_mem _ hv)) with rfl | hv'
        · exact (lt_irrefl _ (h2.1 v hv)).elim
        · exact hv'
/-- the values whose vectors are beaten by none of the others -/
def rem (l o : List V) (beats : List Int → List Int → Bool) : List V := l.filter fun v => !o.any fun w => beats w.vec v.vec
def raw (a b : List V) : List V := rem a b sup ++ rem b a cov
def clash (a : List V) (v : V) : Bool := a.any fun w => (w.val != v.val) && (w.vec == v.vec)
def srt (l : List V) : List V := l.mergeSort fun v w => !decide (cmpL w.vec v.vec < 0)
def mCI (a b : List V) : Int × Int :=
  if vC a ≠ 0 then (vC a, vI a) else if vC b ≠ 0 then (vC b, -2) else match b.findIdx? (clash a) with
    | some k => (19, k)
    | none => if 16 < (raw a b).length then (10, -1) else (0, 0)
def mC (a b : List V) : Int := (mCI a b).1
def mI (a b : List V) : Int := (mCI a b).2
def mL (a b : List V) : List V := if mC a b = 0 then srt (raw a b) else []
theorem srt_perm (l : List V) : (srt l).Perm l := List.mergeSort_perm l _
theorem srt_weak (l : List V) : (srt l).Pairwise (fun v w => ¬ lt w v) := by
  have := List.pairwise_mergeSort (le := fun v w : V => !decide (cmpL w.vec v.vec < 0)) (fun a b c h1 h2 => by
    simp only [Bool.not_eq_true', decide_eq_false_iff_not] at *
    intro h3
    rcases cmpL_total b.vec a.vec with h | h | h
    · exact h1 h
    · exact h2 (cmpL_trans _ _ _ h3 h)
    · rw [h] at h2; exact h2 h3) (fun a b => by
    simp only [Bool.or_eq_true, Bool.not_eq_true', decide_eq_false_iff_not]
    rcases cmpL_total b.vec a.vec with h | h | h
    · right; intro h'; exact lt_irrefl _ (cmpL_trans _ _ _ h h')
    · left; intro h'; exact lt_irrefl _ (cmpL_trans _ _ _ h h')
    · left; rw [h]; exact lt_irrefl _) l
  refine this.imp fun h => ?_
  unfold lt
  simpa using h
theorem weak_strict {S R : List V} (hp : S.Perm R) (hw : S.Pairwise (fun v w => ¬ lt w v)) (hd : (R.map V.vec).Nodup) : S.Pairwise lt := by
  have hd' : (S.map V.vec).Nodup := (hp.map V.vec).nodup_iff.2 hd
  rw [List.Nodup, List.pairwise_map] at hd'
  refine (hw.and hd').imp fun {v w} ⟨h1, h2⟩ => ?_
  rcases cmpL_total v.vec w.vec with h | h | h
  · exact h
  · exact (h1 h).elim
  · exact (h2 h).elim
/-- a valid merge: what Merge answers if it does not refuse -/
structure Mg (a b : List V) : Prop where
  va : Val a
  vb : Val b
  same : ∀ v ∈ a, ∀ w ∈ b, v.vec = w.vec → v = w
  len : (raw a b).length ≤ 16
theorem find_none {a b : List V} : b.findIdx? (clash a) = none ↔ ∀ v ∈ a, ∀ w ∈ b, v.vec = w.vec → v = w := by
  rw [List.findIdx?_eq_none_iff]
  constructor
  · intro h v hv w hw e
    have := h w hw
    unfold clash at this
    rw [List.any_eq_false] at this
    have := this v hv
    simp only [Bool.and_eq_true, bne_iff_ne, beq_iff_eq, not_and] at this
    have hval : v.val = w.val := Decidable.byContradiction fun hne => this hne e
    obtain ⟨x, y⟩ := v
    obtain ⟨x', y'⟩ := w
    simp_all
  · intro h w hw
    unfold clash
    rw [List.any_eq_false]
    intro v hv
    simp only [Bool.and_eq_true, bne_iff_ne, beq_iff_eq, not_and]
    intro hne e
    exact hne (by rw [h v hv w hw e])
theorem mg_iff (a b : List V) : mC a b = 0 ↔ Mg a b := by
  unfold mC mCI
  by_cases h1 : vC a = 0
  · by_cases h2 : vC b = 0
    · rw [if_neg (by simpa using h1), if_neg (by simpa using h2)]
      cases hf : b.findIdx? (clash a) with
      | some k =>
        refine ⟨fun h => by simp at h, fun h => ?_⟩
        rw [find_none.2 h.same] at hf; cases hf
      | none =>
        dsimp only
        by_cases hl : 16 < (raw a b).length
        · rw [if_pos hl]
          exact ⟨fun h => by simp at h, fun h => by have := h.len; omega⟩
        · rw [if_neg hl]
          exact ⟨fun _ => ⟨(val_iff a).1 h1, (val_iff b).1 h2, find_none.1 hf, by omega⟩, fun _ => rfl⟩
    · rw [if_neg (by simpa using h1), if_pos h2]
      exact ⟨fun h => (h2 h).elim, fun h => (h2 ((val_iff b).2 h.vb)).elim⟩
  · rw [if_pos h1]
    exact ⟨fun h => (h1 h).elim, fun h => (h1 ((val_iff a).2 h.va)).elim⟩
theorem mI_zero {a b : List V} (h : mC a b = 0) : mI a b = 0 := by
  have hm := (mg_iff a b).1 h
  have h1 := (val_iff a).2 hm.va
  have h2 := (val_iff b).2 hm.vb
  unfold mI mCI
  rw [if_neg (by simpa using h1), if_neg (by simpa using h2), find_none.2 hm.same]
  dsimp only
  rw [if_neg (by have := hm.len; omega)]
theorem any_false' {o : List V} {p : V → Bool} : (!o.any p) = true ↔ ∀ w ∈ o, p w = false := by simp
theorem mem_raw {a b : List V} (ha : Val a) (hb : Val b) (hs : ∀ v ∈ a, ∀ w ∈ b, v.vec = w.vec → v = w) (v : V) :
    v ∈ raw a b ↔ (v ∈ a ∨ v ∈ b) ∧ ∀ w, w ∈ a ∨ w ∈ b → cov w.vec v.vec = true → w = v := by
  unfold raw rem
  rw [List.mem_append, List.mem_filter, List.mem_filter, any_false', any_false']
  have hl : ∀ x, x ∈ a ∨ x ∈ b → x.vec.length = 6 := fun x hx => hx.elim (fun h => (ha.each x h).len) (fun h => (hb.each x h).len)
  constructor
  · rintro (⟨h1, h2⟩ | ⟨h1, h2⟩)
    · refine ⟨.inl h1, fun w hw hc => ?_⟩
      rcases hw with hw | hw
      · exact ha.one hw h1 hc
      · have hk := h2 w hw
        apply Decidable.byContradiction
        intro hne
        have he : w.vec ≠ v.vec := fun e => hne (hs v h1 w hw e.symm).symm
        rw [(sup_iff (by rw [hl w (.inr hw), hl v (.inl h1)])).2 ⟨hc, he⟩] at hk
        cases hk
    · refine ⟨.inr h1, fun w hw hc => ?_⟩
      rcases hw with hw | hw
      · rw [h2 w hw] at hc; cases hc
      · exact hb.one hw h1 hc
  · rintro ⟨h1, h2⟩
    by_cases hva : v ∈ a
    · refine .inl ⟨hva, fun w hw => ?_⟩
      cases hk : sup w.vec v.vec with
      | false => rfl
      | true =>
        have := (sup_iff (by rw [hl w (.inr hw), hl v (.inl hva)])).1 hk
        exact (this.2 (by rw [h2 w (.inr hw) this.1])).elim
    · have hvb : v ∈ b := h1.resolve_left hva
      refine .inr ⟨hvb, fun w hw => ?_⟩
      cases hk : cov w.vec v.vec with
      | false => rfl
      | true => exact (hva (h2 w (.inl hw) hk ▸ hw)).elim
theorem Val.nodup {l : List V} (h : Val l) : (l.map V.vec).Nodup := by
  rw [List.Nodup, List.pairwise_map]
  refine h.srt.imp ?_
  intro v w h e
  unfold lt at h
  rw [e] at h
  exact lt_irrefl _ h
theorem raw_nodup {a b : List V} (ha : Val a) (hb : Val b) : ((raw a b).map V.vec).Nodup := by
  unfold raw
  rw [List.map_append, List.nodup_append]
  refine ⟨(List.filter_sublist.map _).nodup ha.nodup, (List.filter_sublist.map _).nodup hb.nodup, ?_⟩
  intro x hx y hy e
  obtain ⟨v, hv, rfl⟩ := List.mem_map.1 hx
  obtain ⟨w, hw, rfl⟩ := List.mem_map.1 hy
  unfold rem at hv hw
  rw [List.mem_filter, any_false'] at hv hw
  have := hw.2 v hv.1
  rw [e, cov_refl] at this
  cases this
theorem sort_one {a b S : List V} (ha : Val a) (hb : Val b) (hp : S.Perm (raw a b)) (hw : S.Pairwise (fun v w => ¬ lt w v)) : S = srt (raw a b) :=
  srt_one (weak_strict hp hw (raw_nodup ha hb)) (weak_strict (srt_perm _) (srt_weak _) (raw_nodup ha hb)) fun v => by rw [hp.mem_iff, (srt_perm _).mem_iff]
theorem Mg.srt {a b : List V} (h : Mg a b) : (mL a b).Pairwise lt := by
  unfold mL
  rw [if_pos ((mg_iff a b).2 h)]
  exact weak_strict (srt_perm _) (srt_weak _) (raw_nodup h.va h.vb)
theorem Mg.mem {a b : List V} (h : Mg a b) (v : V) : v ∈ mL a b ↔ (v ∈ a ∨ v ∈ b) ∧ ∀ w, w ∈ a ∨ w ∈ b → cov w.vec v.vec = true → w = v := by
  unfold mL
  rw [if_pos ((mg_iff a b).2 h), (srt_perm _).mem_iff, mem_raw h.va h.vb h.same]
theorem Mg.okv {a b : List V} (h : Mg a b) (v : V) (hv : v ∈ a ∨ v ∈ b) : Okv v := hv.elim (h.va.each v) (h.vb.each v)
theorem Mg.val {a b : List V} (h : Mg a b) : Val (mL a b) := by
  refine ⟨?_, fun v hv => h.okv v ((h.mem v).1 hv).1, h.srt, ?_⟩
  · unfold mL
    rw [if_pos ((mg_iff a b).2 h), (srt_perm _).length_eq]
    exact h.len
  · refine List.Pairwise.imp_of_mem ?_ h.srt
    intro v w hv hw hlt
    cases hc : cov w.vec v.vec with
    | false => rfl
    | true =>
      have := ((h.mem v).1 hv).2 w ((h.mem w).1 hw).1 hc
      subst this
      exact (lt_irrefl _ hlt).elim
/-- every value of two registers is covered by one of their merge -/
theorem Mg.covers {a b : List V} (h : Mg a b) (v : V) (hv : v ∈ a ∨ v ∈ b) : ∃ w ∈ mL a b, cov w.vec v.vec = true := by
  have hl : ∀ x, x ∈ a ∨ x ∈ b → x.vec.length = 6 := fun x hx => (h.okv x hx).len
  by_cases hm : v ∈ mL a b
  · exact ⟨v, hm, cov_refl _⟩
  · rw [h.mem] at hm
    have hx : ∃ w, (w ∈ a ∨ w ∈ b) ∧ cov w.vec v.vec = true ∧ w ≠ v := by
      apply Classical.byContradiction
      intro hne
      exact hm ⟨hv, fun w hw hc => Classical.byContradiction fun e => hne ⟨w, hw, hc, e⟩⟩
    obtain ⟨w, hw, hc, hne⟩ := hx
    refine ⟨w, (h.mem w).2 ⟨hw, fun u hu hcu => ?_⟩, hc⟩
    have hcv := cov_trans _ _ _ (by rw [hl u hu, hl w hw]) (by rw [hl w hw, hl v hv]) hcu hc
    -- u, w, v: two of the three lie in one register
    rcases hv with hva | hvb
    · have hwb : w ∈ b := hw.resolve_left fun hwa => hne (h.va.one hwa hva hc)
      rcases hu with hua | hub
      · have := h.va.one hua hva hcv
        subst this
        exact (hne (h.same u hua w hwb (cov_anti _ _ (by rw [hl u (.inl hua), hl w (.inr hwb)]) hcu hc)).symm).elim
      · exact h.vb.one hub hwb hcu
    · have hwa : w ∈ a := hw.resolve_right fun hwb => hne (h.vb.one hwb hvb hc)
      rcases hu with hua | hub
      · exact h.va.one hua hwa hcu
      · have := h.vb.one hub hvb hcv
        subst this
        exact (hne (h.same w hwa u hub (cov_anti _ _ (by rw [hl u (.inr hub), hl w (.inl hwa)]) hcu hc).symm)).elim
end Mv
end Go.Proofs.Ytidncnhhjfdifaa
