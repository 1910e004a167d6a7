
/-
  Plain mathematics of words in lines: tokens, ranges of bytes that differ (no program here).
-/
import Derived.Test.YtkfloglpihbdjaaTpM
namespace Go.Proofs.Ytkfloglpihbdjaa.Wd
open Go.RowKit
set_option maxRecDepth 4000

/-! tokens of a line -/
/-- other 0, blank 1, word 2 -/
def kd (n : Nat) : Nat :=
  if (97 ≤ n ∧ n ≤ 122) ∨ (65 ≤ n ∧ n ≤ 90) ∨ (48 ≤ n ∧ n ≤ 57) ∨ n = 95 ∨ 128 ≤ n then 2 else if n = 32 ∨ n = 9 then 1 else 0
def tog (a b : UInt8) : Bool := decide (kd a.toNat ≠ 0) && decide (kd a.toNat = kd b.toNat)
def tkn : List UInt8 → List (List UInt8)
  | [] => []
  | [c] => [[c]]
  | c :: d :: r => match tkn (d :: r) with
    | [] => [[c]]
    | t :: ts => if tog c d then (c :: t) :: ts else [c] :: t :: ts
theorem tkn_ne (l : List UInt8) : ∀ t ∈ tkn l, t ≠ [] := by
  fun_induction tkn l with
  | case1 => intro t h; cases h
  | case2 c => intro t h; rw [List.mem_singleton.1 h]; simp
  | case3 c d r _ _ => intro t h; rw [List.mem_singleton.1 h]; simp
  | case4 c d r t ts h0 h1 ih =>
    intro x hx
    rw [h0] at ih
    rcases List.mem_cons.1 hx with rfl | hx
    · simp
    · exact ih x (List.mem_cons_of_mem _ hx)
  | case5 c d r t ts h0 h1 ih =>
    intro x hx
    rw [h0] at ih
    rcases List.mem_cons.1 hx with rfl | hx
    · simp
    · exact ih x hx
theorem tkn_cons (c : UInt8) (r : List UInt8) : tkn (c :: r) ≠ [] := by
  cases r with
  | nil => simp [tkn]
  | cons d r =>
    simp only [tkn]
    split
    · simp
    · split <;> simp
theorem tkn_join (l : List UInt8) : (tkn l).flatten = l := by
  fun_induction tkn l with
  | case1 => rfl
  | case2 c => rfl
  | case3 c d r h _ => exact (tkn_cons d r h).elim
  | case4 c d r t ts h0 h1 ih => rw [h0] at ih; simp at ih ⊢; exact ih
  | case5 c d r t ts h0 h1 ih => rw [h0] at ih; simp at ih ⊢; exact ih
theorem tkn_run (s : List UInt8) : ∀ r : List UInt8, s ≠ [] → (∀ k (h : k + 1 < s.length), tog s[k] s[k + 1] = true) → (∀ d, r.head? = some d → ∀ c, s.getLast? = some c → tog c d = false) → tkn (s ++ r) = s :: tkn r := by
  induction s with
  | nil => intro r h; exact (h rfl).elim
  | cons c s ih =>
    intro r _ hk hd
    cases s with
    | nil =>
      cases r with
      | nil => rfl
      | cons d r =>
        have := hd d rfl c rfl
        simp only [List.singleton_append, tkn]
        split
        · rename_i h; exact (tkn_cons d r h).elim
        · rename_i t ts h; rw [if_neg (by rw [this]; decide), h]
    | cons d s =>
      have h1 := ih r (by simp) (fun k h => by have := hk (k + 1) (by simp at h ⊢; omega); simpa using this) (fun d' h c' hc => hd d' h c' (by rw [List.getLast?_cons_cons]; exact hc))
      have h2 := hk 0 (by simp)
      simp only [List.getElem_cons_zero, List.getElem_cons_succ] at h2
      simp only [List.cons_append] at h1 ⊢
      simp only [tkn, h1]
      rw [if_pos h2]
theorem flat_le (l : List (List UInt8)) (h : ∀ t ∈ l, t ≠ []) : l.length ≤ l.flatten.length := by
  induction l with
  | nil => simp
  | cons t l ih =>
    have h1 := ih (fun x hx => h x (List.mem_cons_of_mem _ hx))
    have h2 := List.length_pos_iff.2 (h t (List.mem_cons_self ..))
    simp only [List.length_cons, List.flatten_cons, List.length_append]; omega
theorem flat_mem (l : List (List UInt8)) : ∀ t ∈ l, t.length ≤ l.flatten.length := by
  induction l with
  | nil => intro t h; cases h
  | cons x l ih =>
    intro t h
    simp only [List.flatten_cons, List.length_append]
    rcases List.mem_cons.1 h with rfl | h
    · omega
    · have := ih t h; omega
theorem tkn_len (l : List UInt8) : (tkn l).length ≤ l.length := by
  have := flat_le (tkn l) (tkn_ne l)
  rwa [tkn_join] at this
theorem tkn_size (l : List UInt8) : ∀ t ∈ tkn l, t.length ≤ l.length := by
  have := flat_mem (tkn l)
  rwa [tkn_join] at this
theorem tkn_mem (l : List UInt8) (c : UInt8) (h : c ∉ l) : ∀ t ∈ tkn l, c ∉ t := by
  intro t ht hc
  exact h (by rw [← tkn_join l]; exact List.mem_flatten.2 ⟨t, ht, hc⟩)
/-- a token ends -/
theorem tkn_cut (l : List UInt8) (a i : Nat) (ha : a ≤ i) (hi : i < l.length) (hr : ∀ k (h : k < i), a ≤ k → tog l[k] l[k + 1] = true) (he : ∀ h : i + 1 < l.length, tog l[i] l[i + 1] = false) :
    tkn (l.drop a) = (l.drop a).take (i + 1 - a) :: tkn (l.drop (i + 1)) := by
  have e : l.drop a = (l.drop a).take (i + 1 - a) ++ l.drop (i + 1) := by
    have := (List.take_append_drop (i + 1 - a) (l.drop a)).symm
    rwa [List.drop_drop, show a + (i + 1 - a) = i + 1 by omega] at this
  have hl : ((l.drop a).take (i + 1 - a)).length = i + 1 - a := by rw [List.length_take, List.length_drop]; omega
  conv => lhs; rw [e]
  refine tkn_run _ _ (by intro h; rw [h] at hl; simp at hl; omega) (fun k h => ?_) (fun d hd c hc => ?_)
  · rw [hl] at h
    simp only [List.getElem_take, List.getElem_drop]
    have := hr (a + k) (by omega) (by omega)
    simpa [Nat.add_assoc] using this
  · rw [List.head?_drop] at hd
    obtain ⟨h1, h2⟩ := List.getElem?_eq_some_iff.1 hd
    rw [List.getLast?_eq_getElem?, hl, List.getElem?_take, if_pos (by omega), List.getElem?_drop, show a + (i + 1 - a - 1) = i by omega, List.getElem?_eq_getElem hi] at hc
    have := he h1
    rw [← h2, ← Option.some.inj hc]; exact this
/-! ranges: a machine that goes along the steps of an alignment -/
structure M where
  n : Nat
  out : List (Nat × Nat)
  st : Option Nat
def M.full (s : M) : List (Nat × Nat) := s.out ++ (match s.st with | some a => [(a, s.n)] | none => [])
/-- a step of size m that keeps (k = 0), marks (k = c) or goes by -/
def ms (c : Nat) (s : M) (x : Nat × Nat) : M :=
  if x.1 = 0 then ⟨s.n + x.2, s.full, none⟩ else if x.1 = c then ⟨s.n + x.2, s.out, some (s.st.getD s.n)⟩ else s
def m0 : M := ⟨0, [], none⟩
/-- the machine behind steps of whatever kind of text, by their sizes -/
def rg (c : Nat) (l : List (Nat × ByteArray)) : M := (l.map (fun x => (x.1, x.2.size))).foldl (ms c) m0
theorem rg_snoc (c : Nat) (l : List (Nat × ByteArray)) (x : Nat × ByteArray) : rg c (l ++ [x]) = ms c (rg c l) (x.1, x.2.size) := by
  unfold rg; rw [List.map_append, List.foldl_append]; rfl
theorem rg_nil (c : Nat) : rg c [] = m0 := rfl
/-- the texts on one side: c = 1 the first, c = 2 the second -/
def X (c : Nat) (l : List (Nat × ByteArray)) : List ByteArray := (l.filter (fun s => s.1 == 0 || s.1 == c)).map (·.2)
theorem X_snoc (c : Nat) (l : List (Nat × ByteArray)) (k : Nat) (x : ByteArray) : X c (l ++ [(k, x)]) = X c l ++ (if k = 0 ∨ k = c then [x] else []) := by
  unfold X
  rw [List.filter_append, List.map_append]
  congr 1
  by_cases h : k = 0 ∨ k = c
  · rw [if_pos h]; have : (k == 0 || k == c) = true := by simpa using h
    simp [List.filter, this]
  · rw [if_neg h]; have : (k == 0 || k == c) = false := by simpa using h
    simp [List.filter, this]
/-- bytes of a row of texts -/
def jo (l : List ByteArray) : List UInt8 := (l.map (fun s => s.data.toList)).flatten
theorem jo_app (l m : List ByteArray) : jo (l ++ m) = jo l ++ jo m := by simp [jo]
theorem jo_one (x : ByteArray) : jo [x] = x.data.toList := by simp [jo]
theorem dl (x : ByteArray) : x.data.toList.length = x.size := Array.length_toList
def pos (l : List ByteArray) (k : Nat) : Nat := (jo (l.take k)).length
theorem pos_app (l m : List ByteArray) (k : Nat) (h : k ≤ l.length) : pos (l ++ m) k = pos l k := by
  unfold pos; rw [List.take_append_of_le_length h]
theorem pos_all (l : List ByteArray) : pos l l.length = (jo l).length := by unfold pos; rw [List.take_length]
/-! the kept texts -/
def kpt (l : List (Nat × ByteArray)) : List ByteArray := (l.filter (fun s => s.1 == 0)).map (·.2)
theorem kpt_snoc (l : List (Nat × ByteArray)) (k : Nat) (x : ByteArray) : kpt (l ++ [(k, x)]) = kpt l ++ (if k = 0 then [x] else []) := by
  unfold kpt
  rw [List.filter_append, List.map_append]
  congr 1
  by_cases e : k = 0
  · simp [List.filter, e]
  · have : (k == 0) = false := by simpa using e
    rw [if_neg e]; simp [List.filter, this]

theorem snoc_rec {α : Type} {P : List α → Prop} (h0 : P []) (h1 : ∀ l x, P l → P (l ++ [x])) (l : List α) : P l := by
  rw [← List.reverse_reverse l]
  induction l.reverse with
  | nil => exact h0
  | cons x r ih => rw [List.reverse_cons]; exact h1 _ _ ih

/-! what is outside of ranges -/
def ro (s : List UInt8) (l : List (Nat × Nat)) : List UInt8 × Nat := l.foldl (fun p r => (p.1 ++ (s.drop p.2).take (r.1 - p.2), r.2)) ([], 0)
theorem ro_snoc (s : List UInt8) (l : List (Nat × Nat)) (r : Nat × Nat) : ro s (l ++ [r]) = ((ro s l).1 ++ (s.drop (ro s l).2).take (r.1 - (ro s l).2), r.2) := by
  unfold ro; rw [List.foldl_append]; rfl
/-- ranges in order, none beside another, none empty, none behind n -/
structure Ord (n : Nat) (l : List (Nat × Nat)) : Prop where
  pw : l.Pairwise (fun p q => p.2 < q.1)
  each : ∀ p ∈ l, p.1 < p.2 ∧ p.2 ≤ n
theorem Ord.nil (n : Nat) : Ord n [] := ⟨List.Pairwise.nil, fun p h => by cases h⟩
theorem Ord.push {n m x y : Nat} {l : List (Nat × Nat)} (h : Ord n l) (hn : n < x) (hx : x < y) (hy : y ≤ m) : Ord m (l ++ [(x, y)]) := by
  refine ⟨List.pairwise_append.2 ⟨h.pw, List.pairwise_singleton _ _, fun p hp q hq => ?_⟩, fun p hp => ?_⟩
  · rw [List.mem_singleton.1 hq]
    have := (h.each p hp).2
    show p.2 < x; omega
  · rcases List.mem_append.1 hp with hp | hp
    · have := h.each p hp; omega
    · rw [List.mem_singleton.1 hp]; exact ⟨hx, hy⟩
theorem Ord.mono {n m : Nat} {l : List (Nat × Nat)} (h : Ord n l) (hm : n ≤ m) : Ord m l := ⟨h.pw, fun p hp => by have := h.each p hp; omega⟩
theorem ro_end {n : Nat} {l : List (Nat × Nat)} (s : List UInt8) (h : Ord n l) : (ro s l).2 ≤ n := by
  revert h
  refine snoc_rec (P := fun l => Ord n l → (ro s l).2 ≤ n) (fun _ => Nat.zero_le _) (fun l x _ h => ?_) l
  rw [ro_snoc]
  exact (h.each x (List.mem_append_right _ (List.mem_singleton_self x))).2

/-- the state of the machine against the bytes -/
structure Inv (c : Nat) (l : List (Nat × ByteArray)) : Prop where
  n : (rg c l).n = (jo (X c l)).length
  shut : (rg c l).st = none → ∃ k, k ≤ (rg c l).n ∧ Ord k (rg c l).out ∧ ((rg c l).out ≠ [] → k < (rg c l).n) ∧ (ro (jo (X c l)) (rg c l).out).1 ++ (jo (X c l)).drop (ro (jo (X c l)) (rg c l).out).2 = jo (kpt l)
  op : ∀ a, (rg c l).st = some a → a < (rg c l).n ∧ ∃ k, k ≤ a ∧ Ord k (rg c l).out ∧ ((rg c l).out ≠ [] → k < a) ∧ (ro (jo (X c l)) (rg c l).out).1 ++ ((jo (X c l)).drop (ro (jo (X c l)) (rg c l).out).2).take (a - (ro (jo (X c l)) (rg c l).out).2) = jo (kpt l)
theorem ro_more (s t : List UInt8) (l : List (Nat × Nat)) (h : Ord s.length l) : ro (s ++ t) l = ro s l := by
  revert h
  refine snoc_rec (P := fun l => Ord s.length l → ro (s ++ t) l = ro s l) (fun _ => rfl) (fun l x ih h => ?_) l
  have h1 : Ord s.length l := ⟨(List.pairwise_append.1 h.pw).1, fun p hp => h.each p (List.mem_append_left _ hp)⟩
  have hx := h.each x (List.mem_append_right _ (List.mem_singleton_self x))
  rw [ro_snoc, ro_snoc, ih h1]
  have e := ro_end s h1
  rw [List.drop_append_of_le_length e, List.take_append_of_le_length (by rw [List.length_drop]; omega)]
theorem ord_of {k n : Nat} {l : List (Nat × Nat)} (h : Ord k l) (hk : k ≤ n) : Ord n l := h.mono hk
theorem inv_all (c : Nat) (l : List (Nat × ByteArray)) (hs : ∀ x ∈ l, 0 < x.2.size) : Inv c l := by
  revert hs
  refine snoc_rec (P := fun l => (∀ x ∈ l, 0 < x.2.size) → Inv c l) (fun _ => ?_) (fun l x ih hs => ?_) l
  · refine ⟨rfl, fun _ => ⟨0, Nat.le_refl _, Ord.nil _, fun h => (h rfl).elim, rfl⟩, fun a h => by cases h⟩
  · have I := ih fun y hy => hs y (List.mem_append_left _ hy)
    have hx := hs x (List.mem_append_right _ (List.mem_singleton_self x))
    obtain ⟨k, x⟩ := x
    dsimp only at hx
    have hd := dl x
    have hn := I.n
    obtain ⟨S, hS⟩ : ∃ S, S = jo (X c l) := ⟨_, rfl⟩
    obtain ⟨O, hO⟩ : ∃ O, O = (rg c l).out := ⟨_, rfl⟩
    have hsh := I.shut
    have hop := I.op
    rw [← hS, ← hO] at hsh hop
    rw [← hS] at hn
    -- the ranges that are there lie in S, whatever follows
    have ordS : Ord S.length O := by
      cases h : (rg c l).st with
      | none => obtain ⟨k, h1, h2, -⟩ := hsh h; exact h2.mono (by omega)
      | some a => obtain ⟨h0, k, h1, h2, -⟩ := hop a h; exact h2.mono (by omega)
    have hro := ro_end S ordS
    by_cases k0 : k = 0
    · subst k0
      have e1 : X c (l ++ [(0, x)]) = X c l ++ [x] := by rw [X_snoc, if_pos (.inl rfl)]
      have e2 : kpt (l ++ [(0, x)]) = kpt l ++ [x] := by rw [kpt_snoc, if_pos rfl]
      have e3 : rg c (l ++ [(0, x)]) = ⟨(rg c l).n + x.size, (rg c l).full, none⟩ := by rw [rg_snoc]; rfl
      refine ⟨by rw [e1, e3, jo_app, jo_one, List.length_append, ← hS]; dsimp only; omega, fun _ => ?_, fun a h => (by rw [e3] at h; cases h)⟩
      rw [e1, e2, e3, jo_app, jo_app, jo_one, ← hS]
      dsimp only
      refine ⟨S.length, by omega, ?_⟩
      unfold M.full
      rw [← hO]
      cases h : (rg c l).st with
      | none =>
        obtain ⟨k, h1, h2, h3, h4⟩ := hsh h
        dsimp only
        rw [List.append_nil]
        refine ⟨ordS, fun _ => by omega, ?_⟩
        rw [ro_more _ _ _ ordS, List.drop_append_of_le_length hro, ← List.append_assoc, h4]
      | some a =>
        obtain ⟨h0, k, h1, h2, h3, h4⟩ := hop a h
        dsimp only
        have oo : Ord S.length (O ++ [(a, (rg c l).n)]) := by
          by_cases hO' : O = []
          · rw [hO']; exact ⟨List.pairwise_singleton _ _, fun p hp => by rw [List.mem_singleton.1 hp]; exact ⟨h0, by dsimp only; omega⟩⟩
          · exact h2.push (h3 hO') h0 (by omega)
        refine ⟨oo, fun _ => by omega, ?_⟩
        rw [ro_more _ _ _ oo, ro_snoc]
        dsimp only
        rw [h4, hn, List.drop_append_of_le_length (Nat.le_refl _), List.drop_length, List.nil_append]
    · by_cases kc : k = c
      · have e1 : X c (l ++ [(k, x)]) = X c l ++ [x] := by rw [X_snoc, if_pos (.inr kc)]
        have e2 : kpt (l ++ [(k, x)]) = kpt l := by rw [kpt_snoc, if_neg k0, List.append_nil]
        have e3 : rg c (l ++ [(k, x)]) = ⟨(rg c l).n + x.size, (rg c l).out, some ((rg c l).st.getD (rg c l).n)⟩ := by rw [rg_snoc]; unfold ms; rw [if_neg k0, if_pos kc]
        refine ⟨by rw [e1, e3, jo_app, jo_one, List.length_append, ← hS]; dsimp only; omega, fun h => (by rw [e3] at h; cases h), fun a ha => ?_⟩
        rw [e3] at ha
        rw [e1, e2, e3, jo_app, jo_one, ← hS, ← hO]
        dsimp only at ha ⊢
        rw [ro_more _ _ _ ordS, List.drop_append_of_le_length hro]
        cases h : (rg c l).st with
        | none =>
          obtain ⟨k, h1, h2, h3, h4⟩ := hsh h
          rw [h] at ha
          have ea : a = (rg c l).n := (Option.some.inj ha).symm
          rw [ea]
          refine ⟨by omega, k, h1, h2, h3, ?_⟩
          rw [List.take_append_of_le_length (by rw [List.length_drop]; omega), List.take_of_length_le (by rw [List.length_drop]; omega), h4]
        | some a' =>
          obtain ⟨h0, k, h1, h2, h3, h4⟩ := hop a' h
          rw [h] at ha
          have ea : a = a' := (Option.some.inj ha).symm
          rw [ea]
          refine ⟨by omega, k, h1, h2, h3, ?_⟩
          rw [List.take_append_of_le_length (by rw [List.length_drop]; omega), h4]
      · have e1 : X c (l ++ [(k, x)]) = X c l := by rw [X_snoc, if_neg (by omega), List.append_nil]
        have e2 : kpt (l ++ [(k, x)]) = kpt l := by rw [kpt_snoc, if_neg k0, List.append_nil]
        have e3 : rg c (l ++ [(k, x)]) = rg c l := by rw [rg_snoc]; simp [ms, k0, kc]
        exact ⟨by rw [e1, e3]; exact I.n, by rw [e1, e2, e3]; exact I.shut, by rw [e1, e2, e3]; exact I.op⟩
/-- what is outside of the ranges is what is kept -/
theorem outside (c : Nat) (l : List (Nat × ByteArray)) (hs : ∀ x ∈ l, 0 < x.2.size) (S : List UInt8) (hS : jo (X c l) = S) :
    Ord S.length (rg c l).full ∧ (ro S (rg c l).full).1 ++ S.drop (ro S (rg c l).full).2 = jo (kpt l) := by
  have I := inv_all c l hs
  have hn := I.n
  have hsh := I.shut
  have hop := I.op
  rw [hS] at hn hsh hop
  unfold M.full
  cases h : (rg c l).st with
  | none =>
    obtain ⟨k, h1, h2, h3, h4⟩ := hsh h
    dsimp only
    rw [List.append_nil]
    exact ⟨h2.mono (by omega), h4⟩
  | some a =>
    obtain ⟨h0, k, h1, h2, h3, h4⟩ := hop a h
    dsimp only
    refine ⟨?_, ?_⟩
    · by_cases hO' : (rg c l).out = []
      · rw [hO']; exact ⟨List.pairwise_singleton _ _, fun p hp => by rw [List.mem_singleton.1 hp]; exact ⟨h0, by dsimp only; omega⟩⟩
      · exact h2.push (h3 hO') h0 (by omega)
    · rw [ro_snoc]
      dsimp only
      rw [h4, hn, List.drop_length, List.append_nil]
/-! hunks as pairs of a place and a length -/
/-- the machine on tokens: the step's size is one for what marks; a hunk may have nothing on this side -/
def hs1 (c : Nat) (s : M) (x : Nat × ByteArray) : M :=
  if x.1 = 0 then ⟨s.n + 1, s.full, none⟩ else if x.1 = c then ⟨s.n + 1, s.out, some (s.st.getD s.n)⟩ else ⟨s.n, s.out, some (s.st.getD s.n)⟩
/-- pairs from to -/
def hg (c : Nat) (l : List (Nat × ByteArray)) : M := l.foldl (hs1 c) m0
theorem hg_snoc (c : Nat) (l : List (Nat × ByteArray)) (x : Nat × ByteArray) : hg c (l ++ [x]) = hs1 c (hg c l) x := by
  unfold hg; rw [List.foldl_append]; rfl
def two (h : Tp.H) : Int × Int := (h.at', h.at' + h.old.length)
def gw : List Tp.H → Int
  | [] => 0
  | h :: hs => (h.new.length : Int) - h.old.length + gw hs
theorem gw_app (l m : List Tp.H) : gw (l ++ m) = gw l + gw m := by
  induction l with
  | nil => simp [gw]
  | cons h l ih => simp only [List.cons_append, gw, ih]; omega
theorem iv_app (l m : List Tp.H) : ∀ n, Tp.iv n (l ++ m) = Tp.iv n l ++ Tp.iv (n + gw l) m := by
  induction l with
  | nil => intro n; simp [Tp.iv, gw]
  | cons h l ih => intro n; simp only [List.cons_append, Tp.iv, ih, gw]; rw [show n + ↑h.new.length - ↑h.old.length + gw l = n + (↑h.new.length - ↑h.old.length + gw l) by omega]
def toI (p : Nat × Nat) : Int × Int := ((p.1 : Int), (p.2 : Int))
/-- the state of the reference's way of making a patch, against the two machines -/
structure Two (s : Dif.St ByteArray) (A B : M) : Prop where
  na : s.at' = A.n
  nb : (s.at' : Int) + gw s.hs = B.n
  shut : s.open' = false → A.st = none ∧ B.st = none ∧ s.hs.map two = A.out.map toI ∧ (Tp.iv 0 s.hs).map two = B.out.map toI
  op : s.open' = true → ∃ (hs : List Tp.H) (h : Tp.H) (a b : Nat), s.hs = hs ++ [h] ∧ A.st = some a ∧ B.st = some b ∧ hs.map two = A.out.map toI ∧ (Tp.iv 0 hs).map two = B.out.map toI ∧ h.at' = a ∧ (a : Int) + h.old.length = A.n ∧ (a : Int) + gw hs = b ∧ (b : Int) + h.new.length = B.n
theorem Two.full {s : Dif.St ByteArray} {A B : M} (t : Two s A B) : s.hs.map two = A.full.map toI ∧ (Tp.iv 0 s.hs).map two = B.full.map toI := by
  unfold M.full
  cases h : s.open' with
  | false =>
    obtain ⟨h1, h2, h3, h4⟩ := t.shut h
    rw [h1, h2]; simp only [List.append_nil]; exact ⟨h3, h4⟩
  | true =>
    obtain ⟨hs, k, a, b, h1, h2, h3, h4, h5, h6, h7, h8, h9⟩ := t.op h
    rw [h1, h2, h3, iv_app]
    simp only [List.map_append, h4, h5, List.map_cons, List.map_nil, Tp.iv, two, toI, h6]
    refine ⟨by rw [← h7], ?_⟩
    rw [show (a : Int) + (0 + gw hs) = b by omega, h9]
theorem two_all (l : List (Nat × ByteArray)) (hl : ∀ x ∈ l, x.1 ≤ 2) : Two (l.foldl Dif.pst ⟨[], 0, false⟩) (hg 1 l) (hg 2 l) := by
  revert hl
  refine snoc_rec (P := fun l => (∀ x ∈ l, x.1 ≤ 2) → Two (l.foldl Dif.pst ⟨[], 0, false⟩) (hg 1 l) (hg 2 l)) (fun _ => ?_) (fun l x ih hl => ?_) l
  · exact ⟨rfl, rfl, fun _ => ⟨rfl, rfl, rfl, rfl⟩, fun h => by cases h⟩
  · have T := ih fun y hy => hl y (List.mem_append_left _ hy)
    have hx := hl x (List.mem_append_right _ (List.mem_singleton_self x))
    obtain ⟨k, x⟩ := x
    dsimp only at hx
    rw [List.foldl_append, hg_snoc, hg_snoc]
    obtain ⟨s, hs⟩ : ∃ s, s = l.foldl Dif.pst ⟨[], 0, false⟩ := ⟨_, rfl⟩
    obtain ⟨A, hA⟩ : ∃ s, s = hg 1 l := ⟨_, rfl⟩
    obtain ⟨B, hB⟩ : ∃ s, s = hg 2 l := ⟨_, rfl⟩
    rw [← hs, ← hA, ← hB] at T
    rw [← hs, ← hA, ← hB]
    clear hs hA hB ih hl
    have hn := T.na
    have hm := T.nb
    show Two (Dif.pst s (k, x)) _ _
    by_cases k0 : k = 0
    · subst k0
      have := T.full
      refine ⟨by show s.at' + 1 = A.n + 1; omega, by show ((s.at' + 1 : Nat) : Int) + gw s.hs = ((B.n + 1 : Nat) : Int); omega, fun _ => ⟨rfl, rfl, this.1, this.2⟩, fun h => by cases h⟩
    · -- the open hunk
      have O : ∃ (hs : List Tp.H) (h : Tp.H) (a b : Nat), (if s.open' then s.hs else s.hs ++ [⟨s.at', [], []⟩]) = hs ++ [h] ∧ A.st.getD A.n = a ∧ B.st.getD B.n = b ∧ hs.map two = A.out.map toI ∧ (Tp.iv 0 hs).map two = B.out.map toI ∧ h.at' = a ∧ (a : Int) + h.old.length = A.n ∧ (a : Int) + gw hs = b ∧ (b : Int) + h.new.length = B.n := by
        cases ho : s.open' with
        | true =>
          obtain ⟨hs, h, a, b, h1, h2, h3, r⟩ := T.op ho
          exact ⟨hs, h, a, b, by simpa using h1, by rw [h2]; rfl, by rw [h3]; rfl, r⟩
        | false =>
          obtain ⟨h1, h2, h3, h4⟩ := T.shut ho
          refine ⟨s.hs, ⟨s.at', [], []⟩, A.n, B.n, by simp, by rw [h1]; rfl, by rw [h2]; rfl, h3, h4, by show (s.at' : Int) = A.n; omega, by simp, by omega, by simp⟩
      obtain ⟨hs, h, a, b, h1, h2, h3, h4, h5, h6, h7, h8, h9⟩ := O
      by_cases k1 : k = 1
      · subst k1
        have e : Dif.pst s (1, x) = { hs := hs ++ [{ h with old := h.old ++ [x] }], at' := s.at' + 1, open' := true } := by
          unfold Dif.pst; rw [if_neg (by simp), if_pos rfl, h1, onLast_snoc]
        rw [e]
        refine ⟨by show s.at' + 1 = A.n + 1; omega, ?_, fun h => (by cases h), fun _ => ⟨hs, _, a, b, rfl, by show some (A.st.getD A.n) = _; rw [h2], by show some (B.st.getD B.n) = _; rw [h3], h4, h5, h6, ?_, h8, h9⟩⟩
        · show ((s.at' + 1 : Nat) : Int) + gw (hs ++ [_]) = B.n
          rw [gw_app]; simp [gw]; omega
        · show (a : Int) + ((h.old ++ [x]).length : Nat) = ((A.n + 1 : Nat) : Int)
          rw [List.length_append]; simp; omega
      · have k2 : k = 2 := by omega
        subst k2
        have e : Dif.pst s (2, x) = { hs := hs ++ [{ h with new := h.new ++ [x] }], at' := s.at', open' := true } := by
          unfold Dif.pst; rw [if_neg (by simp), if_neg (by simp), h1, onLast_snoc]
        rw [e]
        refine ⟨hn, ?_, fun h => (by cases h), fun _ => ⟨hs, _, a, b, rfl, by show some (A.st.getD A.n) = _; rw [h2], by show some (B.st.getD B.n) = _; rw [h3], h4, h5, h6, h7, h8, ?_⟩⟩
        · show (s.at' : Int) + gw (hs ++ [_]) = ((B.n + 1 : Nat) : Int)
          rw [gw_app]; simp [gw]; omega
        · show (b : Int) + ((h.new ++ [x]).length : Nat) = ((B.n + 1 : Nat) : Int)
          rw [List.length_append]; simp; omega
/-! from tokens to bytes -/
/-- the ranges of bytes that hunks mark -/
def dr (t : List ByteArray) (l : List (Nat × Nat)) : List (Nat × Nat) := (l.filter (fun p => decide (p.1 < p.2))).map (fun p => (pos t p.1, pos t p.2))
theorem dr_app (t : List ByteArray) (l m : List (Nat × Nat)) : dr t (l ++ m) = dr t l ++ dr t m := by unfold dr; rw [List.filter_append, List.map_append]
theorem dr_more (t u : List ByteArray) (l : List (Nat × Nat)) (h : ∀ p ∈ l, p.1 ≤ t.length ∧ p.2 ≤ t.length) : dr (t ++ u) l = dr t l := by
  unfold dr
  refine List.map_congr_left fun p hp => ?_
  have := h p (List.mem_filter.1 hp).1
  rw [pos_app _ _ _ this.1, pos_app _ _ _ this.2]
structure Byt (c : Nat) (l : List (Nat × ByteArray)) : Prop where
  n : (hg c l).n = (X c l).length
  m : (rg c l).n = (jo (X c l)).length
  low : ∀ p ∈ (hg c l).out, p.1 ≤ (X c l).length ∧ p.2 ≤ (X c l).length
  out : dr (X c l) (hg c l).out = (rg c l).out
  none' : (hg c l).st = none → (rg c l).st = none
  some' : ∀ a, (hg c l).st = some a → a ≤ (X c l).length ∧ (rg c l).st = if a < (hg c l).n then some (pos (X c l) a) else none
theorem Byt.full {c : Nat} {l : List (Nat × ByteArray)} (b : Byt c l) : dr (X c l) (hg c l).full = (rg c l).full := by
  unfold M.full
  rw [dr_app, b.out]
  congr 1
  cases h : (hg c l).st with
  | none => rw [b.none' h]; rfl
  | some a =>
    obtain ⟨h1, h2⟩ := b.some' a h
    rw [h2]
    by_cases h3 : a < (hg c l).n
    · rw [if_pos h3]
      simp only [dr, List.filter, decide_eq_true h3, List.map_cons, List.map_nil]
      rw [b.m, b.n, pos_all]
    · rw [if_neg h3]
      simp only [dr, List.filter, decide_eq_false h3, List.map_nil]
theorem byt_all (c : Nat) (l : List (Nat × ByteArray)) : Byt c l := by
  refine snoc_rec (P := fun l => Byt c l) ?_ (fun l x B => ?_) l
  · exact ⟨rfl, rfl, fun p h => (by cases h), rfl, fun _ => rfl, fun a h => (by cases h)⟩
  · obtain ⟨k, x⟩ := x
    have hd := dl x
    have hF := B.full
    have hn := B.n
    have hm := B.m
    by_cases k0 : k = 0
    · subst k0
      have e1 : X c (l ++ [(0, x)]) = X c l ++ [x] := by rw [X_snoc, if_pos (.inl rfl)]
      have e3 : rg c (l ++ [(0, x)]) = ⟨(rg c l).n + x.size, (rg c l).full, none⟩ := by rw [rg_snoc]; rfl
      have e4 : hg c (l ++ [(0, x)]) = ⟨(hg c l).n + 1, (hg c l).full, none⟩ := by rw [hg_snoc]; rfl
      have lo : ∀ p ∈ (hg c l).full, p.1 ≤ (X c l).length ∧ p.2 ≤ (X c l).length := by
        intro p hp
        unfold M.full at hp
        rcases List.mem_append.1 hp with hp | hp
        · exact B.low p hp
        · cases h : (hg c l).st with
          | none => rw [h] at hp; cases hp
          | some a =>
            rw [h] at hp
            have := (B.some' a h).1
            rw [List.mem_singleton.1 hp]; dsimp only; omega
      refine ⟨by rw [e1, e4, List.length_append]; simp; omega, by rw [e1, e3, jo_app, jo_one, List.length_append]; dsimp only; omega, fun p hp => ?_, by rw [e1, e3, e4]; dsimp only; rw [dr_more _ _ _ lo, hF], fun _ => by rw [e3], fun a h => (by rw [e4] at h; cases h)⟩
      rw [e4] at hp
      rw [e1, List.length_append]
      have := lo p hp
      omega
    · by_cases kc : k = c
      · have e1 : X c (l ++ [(k, x)]) = X c l ++ [x] := by rw [X_snoc, if_pos (.inr kc)]
        have e3 : rg c (l ++ [(k, x)]) = ⟨(rg c l).n + x.size, (rg c l).out, some ((rg c l).st.getD (rg c l).n)⟩ := by rw [rg_snoc]; unfold ms; rw [if_neg k0, if_pos kc]
        have e4 : hg c (l ++ [(k, x)]) = ⟨(hg c l).n + 1, (hg c l).out, some ((hg c l).st.getD (hg c l).n)⟩ := by rw [hg_snoc]; unfold hs1; rw [if_neg k0, if_pos kc]
        refine ⟨by rw [e1, e4, List.length_append]; simp; omega, by rw [e1, e3, jo_app, jo_one, List.length_append]; dsimp only; omega, fun p hp => ?_, by rw [e1, e3, e4]; dsimp only; rw [dr_more _ _ _ B.low, B.out], fun h => (by rw [e4] at h; cases h), fun a h => ?_⟩
        · rw [e4] at hp
          rw [e1, List.length_append]
          have := B.low p hp
          omega
        · rw [e4] at h
          rw [e1, e3, e4, List.length_append]
          have h := Option.some.inj h
          dsimp only
          cases h' : (hg c l).st with
          | none =>
            rw [h'] at h
            have : a = (hg c l).n := h.symm
            refine ⟨by omega, ?_⟩
            rw [B.none' h', if_pos (by omega), pos_app _ _ _ (by omega), this, hn, pos_all, ← hm]; rfl
          | some a' =>
            rw [h'] at h
            have : a = a' := h.symm
            obtain ⟨q1, q2⟩ := B.some' a' h'
            refine ⟨by omega, ?_⟩
            rw [if_pos (show a < (hg c l).n + 1 by omega), q2, pos_app _ _ _ (by omega), this]
            by_cases h3 : a' < (hg c l).n
            · rw [if_pos h3]; rfl
            · rw [if_neg h3, show a' = (X c l).length by omega, pos_all, ← hm]; rfl
      · have e1 : X c (l ++ [(k, x)]) = X c l := by rw [X_snoc, if_neg (by omega), List.append_nil]
        have e3 : rg c (l ++ [(k, x)]) = rg c l := by rw [rg_snoc]; unfold ms; rw [if_neg k0, if_neg kc]
        have e4 : hg c (l ++ [(k, x)]) = ⟨(hg c l).n, (hg c l).out, some ((hg c l).st.getD (hg c l).n)⟩ := by rw [hg_snoc]; unfold hs1; rw [if_neg k0, if_neg kc]
        refine ⟨by rw [e1, e4]; exact hn, by rw [e1, e3]; exact hm, by rw [e1, e4]; exact B.low, by rw [e1, e3, e4]; exact B.out, fun h => (by rw [e4] at h; cases h), fun a h => ?_⟩
        rw [e4] at h
        rw [e1, e3, e4]
        have h := Option.some.inj h
        dsimp only
        cases h' : (hg c l).st with
        | none =>
          rw [h'] at h
          have : a = (hg c l).n := h.symm
          exact ⟨by omega, by rw [B.none' h', if_neg (by omega)]⟩
        | some a' =>
          rw [h'] at h
          have : a = a' := h.symm
          rw [this]; exact B.some' a' h'
/-! the reference's ranges of marked bytes -/
def bits (c : Nat) (l : List (Nat × ByteArray)) : List Bool := (l.filter (fun s => s.1 == 0 || s.1 == c)).flatMap (fun s => List.replicate s.2.size (s.1 == c))
theorem bits_snoc (c : Nat) (l : List (Nat × ByteArray)) (k : Nat) (x : ByteArray) : bits c (l ++ [(k, x)]) = bits c l ++ (if k = 0 ∨ k = c then List.replicate x.size (k == c) else []) := by
  unfold bits
  rw [List.filter_append, List.flatMap_append]
  congr 1
  by_cases h : k = 0 ∨ k = c
  · rw [if_pos h]; have : (k == 0 || k == c) = true := by simpa using h
    simp [List.filter, this]
  · rw [if_neg h]; have : (k == 0 || k == c) = false := by simpa using h
    simp [List.filter, this]
def bs (s : M) (b : Bool) : M := ms 1 s (if b then 1 else 0, 1)
def rb (l : List Bool) : M := l.foldl bs m0
theorem rb_snoc (l : List Bool) (b : Bool) : rb (l ++ [b]) = bs (rb l) b := by unfold rb; rw [List.foldl_append]; rfl
theorem ms_full0 (n : Nat) (o : List (Nat × Nat)) : (⟨n, o, none⟩ : M).full = o := by simp [M.full]
theorem bs_rep (m : Nat) : ∀ (s : M) (b : Bool), (List.replicate (m + 1) b).foldl bs s = ms 1 s (if b then 1 else 0, m + 1) := by
  induction m with
  | zero => intro s b; rfl
  | succ m ih =>
    intro s b
    rw [List.replicate_succ, List.foldl_cons, ih]
    cases b with
    | false => simp [bs, ms, ms_full0]; omega
    | true => simp [bs, ms]; omega
theorem rb_bits (c : Nat) (hc : c ≠ 0) (l : List (Nat × ByteArray)) (hs : ∀ x ∈ l, 0 < x.2.size) : rb (bits c l) = rg c l := by
  revert hs
  refine snoc_rec (P := fun l => (∀ x ∈ l, 0 < x.2.size) → rb (bits c l) = rg c l) (fun _ => rfl) (fun l x ih hs => ?_) l
  have I := ih fun y hy => hs y (List.mem_append_left _ hy)
  have hx := hs x (List.mem_append_right _ (List.mem_singleton_self x))
  obtain ⟨k, x⟩ := x
  dsimp only at hx
  obtain ⟨m, hm⟩ : ∃ m, x.size = m + 1 := ⟨x.size - 1, by omega⟩
  rw [bits_snoc, rg_snoc]
  by_cases k0 : k = 0
  · subst k0
    rw [if_pos (.inl rfl)]
    unfold rb
    rw [List.foldl_append, hm, bs_rep]
    show ms 1 (rb (bits c l)) _ = _
    rw [I]
    have : (0 == c) = false := by rw [beq_eq_false_iff_ne]; omega
    rw [this]
    simp [ms]
  · by_cases kc : k = c
    · rw [if_pos (.inr kc)]
      unfold rb
      rw [List.foldl_append, hm, bs_rep]
      show ms 1 (rb (bits c l)) _ = _
      rw [I]
      have : (k == c) = true := by simpa using kc
      rw [this]
      simp [ms, kc, hc]
    · rw [if_neg (by omega), List.append_nil, I]
      unfold ms; rw [if_neg k0, if_neg kc]
/-- what the reference's loop finds -/
theorem rb_n (l : List Bool) : (rb l).n = l.length := by
  refine snoc_rec (P := fun l => (rb l).n = l.length) rfl (fun l b ih => ?_) l
  rw [rb_snoc, List.length_append]
  cases b <;> simp [bs, ms, ih]
theorem rb_st (l : List Bool) : (rb l).st.isSome = (l.getLast?.getD false) := by
  refine snoc_rec (P := fun l => (rb l).st.isSome = (l.getLast?.getD false)) rfl (fun l b ih => ?_) l
  rw [rb_snoc]
  cases b <;> simp [bs, ms]
theorem rb_off (l : List Bool) : (rb (l ++ [false])).full = (rb l).full := by rw [rb_snoc]; simp [bs, ms, ms_full0]
theorem rb_new (l : List Bool) (h : l.getLast?.getD false = false) : (rb (l ++ [true])).full = (rb l).full ++ [(l.length, l.length + 1)] := by
  have h1 := rb_st l
  rw [h] at h1
  have h2 : (rb l).st = none := by cases e : (rb l).st with | none => rfl | some a => rw [e] at h1; cases h1
  rw [rb_snoc, ← rb_n l]
  simp [bs, ms, M.full, h2]
theorem rb_on (l : List Bool) (h : l.getLast?.getD false = true) : ∃ o a, (rb l).full = o ++ [(a, l.length)] ∧ (rb (l ++ [true])).full = o ++ [(a, l.length + 1)] := by
  have h1 := rb_st l
  rw [h] at h1
  obtain ⟨a, ha⟩ := Option.isSome_iff_exists.1 h1
  refine ⟨(rb l).out, a, ?_, ?_⟩
  · rw [← rb_n l]; simp [M.full, ha]
  · rw [rb_snoc, ← rb_n l]; simp [bs, ms, M.full, ha]
theorem rb_full_len (l : List Bool) : (rb l).full.length ≤ l.length := by
  refine snoc_rec (P := fun l => (rb l).full.length ≤ l.length) (by simp [rb, m0, M.full]) (fun l b ih => ?_) l
  rw [List.length_append]
  cases b with
  | false => rw [rb_off]; omega
  | true =>
    cases h : l.getLast?.getD false with
    | false => rw [rb_new l h, List.length_append]; simp; omega
    | true =>
      obtain ⟨o, a, h1, h2⟩ := rb_on l h
      rw [h1] at ih
      rw [h2]; simp at ih ⊢; omega
/-! the alignment of two rows of tokens -/
theorem X_cons (c : Nat) (k : Nat) (x : ByteArray) (l : List (Nat × ByteArray)) : X c ((k, x) :: l) = (if k = 0 ∨ k = c then [x] else []) ++ X c l := by
  unfold X
  by_cases h : k = 0 ∨ k = c
  · rw [if_pos h]; have : (k == 0 || k == c) = true := by simpa using h
    simp [List.filter, this]
  · rw [if_neg h]; have : (k == 0 || k == c) = false := by simpa using h
    simp [List.filter, this]
theorem al_one (a b : List ByteArray) : X 1 (Dif.al a b) = a := by
  fun_induction Dif.al a b
  case case1 => rfl
  all_goals
    rename_i ih
    rw [X_cons, ih]
    first | (simp; done) | (simp_all; done)
theorem al_two (a b : List ByteArray) : X 2 (Dif.al a b) = b := by
  fun_induction Dif.al a b
  case case1 => rfl
  all_goals
    rename_i ih
    rw [X_cons, ih]
    first | (simp; done) | (simp_all; done)
theorem al_kind (a b : List ByteArray) : ∀ x ∈ Dif.al a b, x.1 ≤ 2 := by
  fun_induction Dif.al a b
  case case1 => intro x hx; cases hx
  all_goals
    rename_i ih
    intro x hx
    rcases List.mem_cons.1 hx with rfl | hx
    · simp
    · exact ih x hx
theorem al_mem' (a b : List ByteArray) : ∀ x ∈ Dif.al a b, x.2 ∈ a ∨ x.2 ∈ b := by
  fun_induction Dif.al a b
  case case1 => intro x hx; cases hx
  all_goals
    rename_i ih
    intro x hx
    rcases List.mem_cons.1 hx with rfl | hx
    · simp
    · have := ih x hx
      simp at this ⊢
      try grind
theorem al_self (a : List ByteArray) : Dif.al a a = a.map (fun x => (0, x)) := by
  induction a with
  | nil => rw [Dif.al]; rfl
  | cons x a ih => rw [Dif.al, if_pos rfl, ih]; rfl
theorem rg_kept (c : Nat) (a : List ByteArray) : (rg c (a.map (fun x => (0, x)))).full = [] := by
  refine snoc_rec (P := fun a => (rg c (a.map (fun x => (0, x)))).full = []) rfl (fun l x ih => ?_) a
  rw [List.map_append, List.map_cons, List.map_nil, rg_snoc]
  simp only [ms, ih, if_true, ms_full0]
theorem rg_same (c : Nat) (a : List ByteArray) : (rg c (Dif.al a a)).full = [] := by rw [al_self, rg_kept]
theorem kpt_kp (a b : List ByteArray) : kpt (Dif.al a b) = Dif.kp a b := rfl
theorem kp_none (a b : List ByteArray) (h : ∀ x ∈ a, x ∉ b) : Dif.kp a b = [] := by
  obtain ⟨h1, h2, -⟩ := Dif.kp_all a b
  cases e : Dif.kp a b with
  | nil => rfl
  | cons x l =>
    rw [e] at h1 h2
    exact (h x (h1.subset (List.mem_cons_self ..)) (h2.subset (List.mem_cons_self ..))).elim
/-- a hunk's place and end, as the places of tokens -/
def pl (hs : List Tp.H) : List (Nat × Nat) := hs.map (fun h => (h.at'.toNat, (h.at' + h.old.length).toNat))
theorem pl_of {hs : List Tp.H} {l : List (Nat × Nat)} (h : hs.map two = l.map toI) : pl hs = l := by
  have : (hs.map two).map (fun p => (p.1.toNat, p.2.toNat)) = (l.map toI).map (fun p => (p.1.toNat, p.2.toNat)) := by rw [h]
  rw [List.map_map, List.map_map] at this
  have e : l.map ((fun p : Int × Int => (p.1.toNat, p.2.toNat)) ∘ toI) = l := by
    conv => rhs; rw [← List.map_id l]
    exact List.map_congr_left fun p _ => by simp [toI]
  rw [e] at this
  exact this
theorem Byt.lowF {c : Nat} {l : List (Nat × ByteArray)} (B : Byt c l) : ∀ p ∈ (hg c l).full, p.1 ≤ (X c l).length ∧ p.2 ≤ (X c l).length := by
  have hn := B.n
  intro p hp
  unfold M.full at hp
  rcases List.mem_append.1 hp with hp | hp
  · exact B.low p hp
  · cases h : (hg c l).st with
    | none => rw [h] at hp; cases hp
    | some a =>
      rw [h] at hp
      have := (B.some' a h).1
      rw [List.mem_singleton.1 hp]; dsimp only; omega
/-- the hunks of the script, on both sides -/
theorem sides (a b : List ByteArray) : dr a (pl (Dif.pof (Dif.al a b))) = (rg 1 (Dif.al a b)).full ∧ dr b (pl (Tp.iv 0 (Dif.pof (Dif.al a b)))) = (rg 2 (Dif.al a b)).full ∧
    (∀ h ∈ Dif.pof (Dif.al a b), 0 ≤ h.at' ∧ h.at' + h.old.length ≤ a.length) ∧ (∀ h ∈ Tp.iv 0 (Dif.pof (Dif.al a b)), 0 ≤ h.at' ∧ h.at' + h.old.length ≤ b.length) := by
  have t := (two_all (Dif.al a b) (al_kind a b)).full
  have b1 := byt_all 1 (Dif.al a b)
  have b2 := byt_all 2 (Dif.al a b)
  have c1 := b1.full
  have c2 := b2.full
  have l1 := b1.lowF
  have l2 := b2.lowF
  rw [al_one] at c1 l1
  rw [al_two] at c2 l2
  have e : (Dif.al a b).foldl Dif.pst ⟨[], 0, false⟩ = (Dif.al a b).foldl Dif.pst ⟨[], 0, false⟩ := rfl
  refine ⟨by rw [show pl (Dif.pof (Dif.al a b)) = _ from pl_of t.1, c1], by rw [show pl (Tp.iv 0 (Dif.pof (Dif.al a b))) = _ from pl_of t.2, c2], fun h hh => ?_, fun h hh => ?_⟩
  · have : two h ∈ (hg 1 (Dif.al a b)).full.map toI := by rw [← t.1]; exact List.mem_map_of_mem hh
    obtain ⟨p, hp, hp'⟩ := List.mem_map.1 this
    have := l1 p hp
    simp only [two, toI, Prod.mk.injEq] at hp'
    omega
  · have : two h ∈ (hg 2 (Dif.al a b)).full.map toI := by rw [← t.2]; exact List.mem_map_of_mem hh
    obtain ⟨p, hp, hp'⟩ := List.mem_map.1 this
    have := l2 p hp
    simp only [two, toI, Prod.mk.injEq] at hp'
    omega
theorem ch_iv (hs : List Tp.H) : ∀ (n prev : Int), Tp.Ch prev hs → -1 ≤ prev + n → (∀ h ∈ Tp.iv n hs, h.at' + h.old.length ≤ 120) → Tp.Ch (prev + n) (Tp.iv n hs) := by
  induction hs with
  | nil => intro n prev _ _ _; exact trivial
  | cons h hs ih =>
    intro n prev hc hn hb
    obtain ⟨hok, hr⟩ := hc
    have b1 := hb _ (List.mem_cons_self ..)
    dsimp only at b1
    have e1 : Tp.en h = h.at' + h.old.length := rfl
    have g := hok.gap
    have s := hok.some'
    refine ⟨⟨by dsimp only; omega, by dsimp only; omega, hok.new, hok.old, by dsimp only; omega, by dsimp only; omega, by unfold Tp.en; dsimp only; exact b1⟩, ?_⟩
    have := ih (n + h.new.length - h.old.length) (Tp.en h) hr (by omega) (fun k hk => hb k (List.mem_cons_of_mem _ hk))
    rw [show Tp.en h + (n + ↑h.new.length - ↑h.old.length) = h.at' + n + h.new.length by omega] at this
    exact this
theorem script_inv {a b : List ByteArray} (h : okD a b) : Tp.Vp (Dif.pof (Dif.al a b)) ∧ Tp.Vp (Tp.iv 0 (Dif.pof (Dif.al a b))) := by
  have v := (Tp.script_ok h).1.vp
  refine ⟨v, by rw [Tp.iv_len]; exact v.len, ?_⟩
  have lb := len_ok h.2
  have := ch_iv _ 0 (-1) v.ch (by omega) (fun k hk => by have := ((sides a b).2.2.2 k hk).2; omega)
  simpa using this

/-! tokens of a line, as texts -/
def tk (s : ByteArray) : List ByteArray := (tkn s.data.toList).map Lin.mk
theorem jo_tk (s : ByteArray) : jo (tk s) = s.data.toList := by
  unfold jo tk
  rw [Lin.map_of_mk, tkn_join]
theorem tk_pos (s : ByteArray) : ∀ x ∈ tk s, 0 < x.size := by
  intro x hx
  obtain ⟨y, hy, rfl⟩ := List.mem_map.1 hx
  rw [Lin.mk_size]
  exact List.length_pos_iff.2 (tkn_ne _ y hy)
theorem tk_len (s : ByteArray) : (tk s).length ≤ s.size := by
  have := tkn_len s.data.toList
  rw [dl] at this
  unfold tk; rw [List.length_map]; exact this
theorem tk_size (s : ByteArray) : ∀ x ∈ tk s, x.size ≤ s.size := by
  intro x hx
  obtain ⟨y, hy, rfl⟩ := List.mem_map.1 hx
  have := tkn_size _ y hy
  rw [dl] at this
  rw [Lin.mk_size]; exact this
theorem tk_ok {s : ByteArray} (h : Lin.lc s = 0) : Lin.vC (tk s) = 0 := by
  obtain ⟨h1, h2⟩ := Lin.lc_zero h
  refine Lin.vC_txt ⟨by have := tk_len s; omega, fun x hx => Lin.lc_ok x (by have := tk_size s x hx; omega) ?_⟩
  obtain ⟨y, hy, rfl⟩ := List.mem_map.1 hx
  have h3 : (10 : UInt8) ∉ s.data.toList := by
    intro h; rw [(Lin.hasNl_iff s).2 h] at h2; cases h2
  have h4 := tkn_mem _ 10 h3 y hy
  have : ¬ Lin.hasNl (Lin.mk y) = true := by rw [Lin.hasNl_iff, Lin.mk_data]; exact h4
  simpa using this
theorem tk_okD {s t : ByteArray} (h1 : Lin.lc s = 0) (h2 : Lin.lc t = 0) : okD (tk s) (tk t) := ⟨tk_ok h1, tk_ok h2⟩
/-- what Highlight returns -/
noncomputable def h1 (s t : ByteArray) : List (Nat × Nat) := if Lin.lc s = 0 ∧ Lin.lc t = 0 then (rg 1 (Dif.al (tk s) (tk t))).full else []
noncomputable def h2 (s t : ByteArray) : List (Nat × Nat) := if Lin.lc s = 0 ∧ Lin.lc t = 0 then (rg 2 (Dif.al (tk s) (tk t))).full else []
def hc (s t : ByteArray) : Int := if Lin.lc s ≠ 0 then Lin.lc s else Lin.lc t
def hi (s t : ByteArray) : Int := if Lin.lc s ≠ 0 then 0 else if Lin.lc t ≠ 0 then 1 else 0
theorem al_pos (s t : ByteArray) : ∀ x ∈ Dif.al (tk s) (tk t), 0 < x.2.size := fun x hx => by
  rcases al_mem' _ _ x hx with h | h
  · exact tk_pos s _ h
  · exact tk_pos t _ h
/-- outside of the ranges of Highlight both lines are what the tokens keep -/
theorem out1 (s t : ByteArray) : Ord s.size (rg 1 (Dif.al (tk s) (tk t))).full ∧ (ro s.data.toList (rg 1 (Dif.al (tk s) (tk t))).full).1 ++ s.data.toList.drop (ro s.data.toList (rg 1 (Dif.al (tk s) (tk t))).full).2 = jo (Dif.kp (tk s) (tk t)) := by
  have := outside 1 _ (al_pos s t) s.data.toList (by rw [al_one, jo_tk])
  rw [dl] at this
  exact this
theorem out2 (s t : ByteArray) : Ord t.size (rg 2 (Dif.al (tk s) (tk t))).full ∧ (ro t.data.toList (rg 2 (Dif.al (tk s) (tk t))).full).1 ++ t.data.toList.drop (ro t.data.toList (rg 2 (Dif.al (tk s) (tk t))).full).2 = jo (Dif.kp (tk s) (tk t)) := by
  have := outside 2 _ (al_pos s t) t.data.toList (by rw [al_two, jo_tk])
  rw [dl] at this
  exact this
end Go.Proofs.Ytkfloglpihbdjaa.Wd
