
/-
  Plain mathematics of lines: splitting at newlines, joining, faults of lists of lines, common prefixes.
-/
import Derived.Below
namespace Go.Proofs.Ytidncnhhjfdifaa.Lin

/-- the lines of a byte sequence behind the bytes acc of an unfinished line -/
def spA : List UInt8 → List UInt8 → List (List UInt8)
  | acc, [] => if acc.isEmpty then [] else [acc]
  | acc, c :: r => if c = 10 then acc :: spA [] r else spA (acc ++ [c]) r
def sp (l : List UInt8) : List (List UInt8) := spA [] l
/-- the pieces between newlines, the last one too where it is empty -/
def cutA : List UInt8 → List UInt8 → List (List UInt8)
  | acc, [] => [acc]
  | acc, c :: r => if c = 10 then acc :: cutA [] r else cutA (acc ++ [c]) r
def jn (l : List (List UInt8)) : List UInt8 := (l.map (· ++ [10])).flatten

theorem spA_free (acc a : List UInt8) (h : (10 : UInt8) ∉ a) (r : List UInt8) : spA acc (a ++ r) = spA (acc ++ a) r := by
  induction a generalizing acc with
  | nil => simp
  | cons c t ih =>
    have hc : c ≠ 10 := fun e => h (by simp [e])
    have ht : (10 : UInt8) ∉ t := fun e => h (by simp [e])
    simp only [List.cons_append, spA, if_neg hc]
    rw [ih _ ht]; simp
theorem cutA_free (acc a : List UInt8) (h : (10 : UInt8) ∉ a) (r : List UInt8) : cutA acc (a ++ r) = cutA (acc ++ a) r := by
  induction a generalizing acc with
  | nil => simp
  | cons c t ih =>
    have hc : c ≠ 10 := fun e => h (by simp [e])
    have ht : (10 : UInt8) ∉ t := fun e => h (by simp [e])
    simp only [List.cons_append, cutA, if_neg hc]
    rw [ih _ ht]; simp
/-- a line that ends -/
theorem sp_line (a r : List UInt8) (h : (10 : UInt8) ∉ a) : sp (a ++ 10 :: r) = a :: sp r := by
  unfold sp; rw [spA_free _ _ h]; simp [spA]
/-- a last line without a newline -/
theorem sp_last (a : List UInt8) (h : (10 : UInt8) ∉ a) (h0 : a ≠ []) : sp a = [a] := by
  have := spA_free [] a h []
  rw [List.append_nil] at this
  unfold sp; rw [this]; simp [spA, h0]
theorem sp_nil : sp [] = [] := rfl
theorem spA_cutA (acc l : List UInt8) : spA acc l = (if (cutA acc l).getLast? = some [] then (cutA acc l).dropLast else cutA acc l) := by
  induction l generalizing acc with
  | nil => by_cases h : acc = [] <;> simp [spA, cutA, h]
  | cons c r ih =>
    simp only [spA, cutA]
    split
    · rw [ih]
      have hn : cutA [] r ≠ [] := by
        have : ∀ a l, cutA a l ≠ [] := by
          intro a l
          induction l generalizing a with
          | nil => simp [cutA]
          | cons c r ih => simp only [cutA]; split <;> simp [ih]
        exact this _ _
      rw [List.getLast?_cons]
      obtain ⟨x, t, e⟩ := List.exists_cons_of_ne_nil hn
      rw [e]
      simp [List.getLast?_cons, List.dropLast]
      split <;> rfl
    · exact ih _
theorem cutA_ne (a l : List UInt8) : cutA a l ≠ [] := by
  induction l generalizing a with
  | nil => simp [cutA]
  | cons c r ih => simp only [cutA]; split <;> simp [ih]
theorem cutA_step_nl (acc r : List UInt8) : cutA acc (10 :: r) = acc :: cutA [] r := by simp [cutA]
theorem cutA_step (acc : List UInt8) (c : UInt8) (r : List UInt8) (h : c ≠ 10) : cutA acc (c :: r) = cutA (acc ++ [c]) r := by simp [cutA, h]

theorem sp_free (l : List UInt8) : ∀ a ∈ sp l, (10 : UInt8) ∉ a := by
  have : ∀ acc, (10 : UInt8) ∉ acc → ∀ a ∈ spA acc l, (10 : UInt8) ∉ a := by
    induction l with
    | nil =>
      intro acc h a ha
      simp only [spA] at ha
      split at ha
      · cases ha
      · rw [List.mem_singleton.1 ha]; exact h
    | cons c r ih =>
      intro acc h a ha
      simp only [spA] at ha
      split at ha
      · rcases List.mem_cons.1 ha with rfl | ha
        · exact h
        · exact ih [] (by simp) a ha
      · rename_i hc
        refine ih _ ?_ a ha
        simp only [List.mem_append, List.mem_singleton, not_or]
        exact ⟨h, fun e => hc e.symm⟩
  exact this [] (by simp)

theorem jn_nil : jn [] = [] := rfl
theorem jn_cons (a : List UInt8) (l : List (List UInt8)) : jn (a :: l) = a ++ 10 :: jn l := by simp [jn]
theorem jn_append (a b : List (List UInt8)) : jn (a ++ b) = jn a ++ jn b := by simp [jn]
theorem jn_snoc (l : List (List UInt8)) (a : List UInt8) : jn (l ++ [a]) = jn l ++ a ++ [10] := by simp [jn]
/-- splitting what was joined, and more -/
theorem sp_jn (l : List (List UInt8)) (h : ∀ a ∈ l, (10 : UInt8) ∉ a) (t : List UInt8) : sp (jn l ++ t) = l ++ sp t := by
  induction l with
  | nil => simp [jn]
  | cons a r ih =>
    rw [jn_cons, List.append_assoc, List.cons_append, sp_line _ _ (h a (by simp)), ih (fun x hx => h x (by simp [hx]))]
    rfl
/-- joining what was split -/
theorem jn_spA (acc l : List UInt8) : jn (spA acc l) = if (acc ++ l) = [] ∨ l.getLast? = some 10 then acc ++ l else acc ++ l ++ [10] := by
  induction l generalizing acc with
  | nil => by_cases h : acc = [] <;> simp [spA, h, jn]
  | cons c r ih =>
    simp only [spA]
    split
    · rename_i hc
      subst hc
      rw [jn_cons, ih]
      cases r with
      | nil => simp
      | cons d t =>
        rw [List.getLast?_cons_cons]
        simp
        split <;> simp
    · rename_i hc
      rw [ih]
      cases r with
      | nil => simp [hc]
      | cons d t => rw [List.getLast?_cons_cons]; simp
theorem jn_sp (l : List UInt8) : jn (sp l) = if l = [] ∨ l.getLast? = some 10 then l else l ++ [10] := by
  have := jn_spA [] l
  simpa [sp] using this
theorem sp_of_jn_size (l : List (List UInt8)) : (jn l).length = (l.map (fun a => a.length + 1)).sum := by
  induction l with
  | nil => rfl
  | cons a r ih => rw [jn_cons]; simp [ih]; omega

/-! lists of strings -/
def mk (l : List UInt8) : ByteArray := ⟨l.toArray⟩
theorem mk_data (l : List UInt8) : (mk l).data.toList = l := by simp [mk]
theorem mk_size (l : List UInt8) : (mk l).size = l.length := by simp [mk, ByteArray.size]
theorem mk_of (s : ByteArray) : mk s.data.toList = s := by cases s; simp [mk]
theorem mk_inj {a b : List UInt8} (h : mk a = mk b) : a = b := by rw [← mk_data a, h, mk_data]
theorem map_mk_of (l : List ByteArray) : (l.map (fun s => s.data.toList)).map mk = l := by
  rw [List.map_map]; conv => rhs; rw [← List.map_id l]
  congr 1
theorem map_of_mk (l : List (List UInt8)) : (l.map mk).map (fun s => s.data.toList) = l := by
  rw [List.map_map]; conv => rhs; rw [← List.map_id l]
  congr 1
def hasNl (s : ByteArray) : Bool := s.data.toList.contains 10
theorem hasNl_iff (s : ByteArray) : hasNl s = true ↔ (10 : UInt8) ∈ s.data.toList := by simp [hasNl]
/-- the code of one line -/
def lc (s : ByteArray) : Int := if 80 < s.size then 2 else if hasNl s = true then 5 else 0
/-- the first faulty line: its code, its position -/
def fb : List ByteArray → Nat → Int × Int
  | [], _ => (0, 0)
  | s :: r, i => if lc s = 0 then fb r (i + 1) else (lc s, (i : Int))
def vC (l : List ByteArray) : Int := if 120 < l.length then 2 else (fb l 0).1
def vI (l : List ByteArray) : Int := if 120 < l.length then -1 else (fb l 0).2
theorem lc_long (s : ByteArray) (h : 80 < s.size) : lc s = 2 := if_pos h
theorem lc_nl (s : ByteArray) (h : ¬ 80 < s.size) (h' : hasNl s = true) : lc s = 5 := by rw [lc, if_neg h, if_pos h']
theorem lc_ok (s : ByteArray) (h : ¬ 80 < s.size) (h' : hasNl s = false) : lc s = 0 := by rw [lc, if_neg h, h']; rfl
theorem lc_zero {s : ByteArray} (h : lc s = 0) : s.size ≤ 80 ∧ hasNl s = false := by
  unfold lc at h
  split at h
  · cases h
  · split at h
    · cases h
    · rename_i h1 h2; exact ⟨by omega, by simpa using h2⟩
theorem fb_drop (l : List ByteArray) (k : Nat) (h : k < l.length) : fb (l.drop k) k = if lc l[k] = 0 then fb (l.drop (k + 1)) (k + 1) else (lc l[k], (k : Int)) := by
  rw [List.drop_eq_getElem_cons h]; rfl
theorem fb_end (l : List ByteArray) (k : Nat) (h : l.length ≤ k) : fb (l.drop k) k = (0, 0) := by
  rw [List.drop_eq_nil_of_le h]; rfl
theorem fb_zero (l : List ByteArray) : ∀ i, (fb l i).1 = 0 → (∀ s ∈ l, lc s = 0) ∧ (fb l i).2 = 0 := by
  induction l with
  | nil => intro i _; exact ⟨by simp, rfl⟩
  | cons s r ih =>
    intro i h
    simp only [fb] at h ⊢
    split at h
    · rename_i h0
      rw [if_pos h0]
      obtain ⟨h1, h2⟩ := ih (i + 1) h
      refine ⟨fun x hx => ?_, h2⟩
      rcases List.mem_cons.1 hx with rfl | hx
      · exact h0
      · exact h1 x hx
    · rename_i h0; exact (h0 h).elim
theorem fb_ok (l : List ByteArray) (h : ∀ s ∈ l, lc s = 0) : ∀ i, fb l i = (0, 0) := by
  induction l with
  | nil => intro i; rfl
  | cons s r ih => intro i; simp only [fb]; rw [if_pos (h s (by simp))]; exact ih (fun x hx => h x (by simp [hx])) _
/-- a text -/
def Txt (l : List ByteArray) : Prop := l.length ≤ 120 ∧ ∀ s ∈ l, lc s = 0
theorem vC_zero {l : List ByteArray} (h : vC l = 0) : Txt l := by
  unfold vC at h
  split at h
  · cases h
  · rename_i hl; exact ⟨by omega, (fb_zero l 0 h).1⟩
theorem vC_txt {l : List ByteArray} (h : Txt l) : vC l = 0 := by
  unfold vC; rw [if_neg (by have := h.1; omega), fb_ok l h.2]
theorem vI_txt {l : List ByteArray} (h : Txt l) : vI l = 0 := by
  unfold vI; rw [if_neg (by have := h.1; omega), fb_ok l h.2]
theorem vI_zero {l : List ByteArray} (h : vC l = 0) : vI l = 0 := vI_txt (vC_zero h)
theorem lc_bd (s : ByteArray) : 0 ≤ lc s ∧ lc s ≤ 5 := by
  unfold lc; split
  · omega
  · split <;> omega
theorem vC_bd (l : List ByteArray) : 0 ≤ vC l ∧ vC l ≤ 5 := by
  have : ∀ l i, 0 ≤ (fb l i).1 ∧ (fb l i).1 ≤ 5 := by
    intro l
    induction l with
    | nil => intro i; simp [fb]
    | cons s r ih =>
      intro i; simp only [fb]; split
      · exact ih _
      · exact lc_bd s
  unfold vC; split
  · omega
  · exact this l 0
theorem txt_free {l : List ByteArray} (h : Txt l) : ∀ a ∈ l.map (fun s => s.data.toList), (10 : UInt8) ∉ a := by
  intro a ha
  obtain ⟨s, hs, rfl⟩ := List.mem_map.1 ha
  have := (lc_zero (h.2 s hs)).2
  intro h10
  rw [(hasNl_iff s).2 h10] at this
  cases this

/-! the functions of the package -/
/-- the lines of a string -/
def sl (s : ByteArray) : List ByteArray := (sp s.data.toList).map mk
/-- the string of the lines -/
def jl (l : List ByteArray) : ByteArray := mk (jn (l.map (fun s => s.data.toList)))
def sC (s : ByteArray) : Int := if 4096 < s.size then 10 else vC (sl s)
def sI (s : ByteArray) : Int := if 4096 < s.size then -1 else vI (sl s)
def sL (s : ByteArray) : List ByteArray := if sC s = 0 then sl s else []
def jC (l : List ByteArray) : Int := if vC l = 0 then (if 4096 < (jl l).size then 10 else 0) else vC l
def jI (l : List ByteArray) : Int := if vC l = 0 then (if 4096 < (jl l).size then -1 else 0) else vI l
def jS (l : List ByteArray) : ByteArray := if jC l = 0 then jl l else ByteArray.empty

theorem sC_zero {s : ByteArray} (h : sC s = 0) : s.size ≤ 4096 ∧ Txt (sl s) := by
  unfold sC at h
  split at h
  · cases h
  · exact ⟨by omega, vC_zero h⟩
theorem sC_ok {s : ByteArray} (h1 : s.size ≤ 4096) (h2 : Txt (sl s)) : sC s = 0 := by
  unfold sC; rw [if_neg (by omega)]; exact vC_txt h2
theorem jC_zero {l : List ByteArray} (h : jC l = 0) : Txt l ∧ (jl l).size ≤ 4096 := by
  unfold jC at h
  split at h
  · rename_i h0
    refine ⟨vC_zero h0, ?_⟩
    split at h
    · cases h
    · omega
  · rename_i h0; exact (h0 h).elim
theorem jC_ok {l : List ByteArray} (h1 : Txt l) (h2 : (jl l).size ≤ 4096) : jC l = 0 := by
  unfold jC; rw [if_pos (vC_txt h1), if_neg (by omega)]
theorem jl_nil : jl [] = mk [] := rfl
theorem jl_data (l : List ByteArray) : (jl l).data.toList = jn (l.map (fun s => s.data.toList)) := mk_data _
theorem sl_jl {l : List ByteArray} (h : Txt l) : sl (jl l) = l := by
  unfold sl
  rw [jl_data]
  have := sp_jn (l.map (fun s => s.data.toList)) (txt_free h) []
  rw [List.append_nil, sp_nil, List.append_nil] at this
  rw [this, map_mk_of]
theorem sl_jl_append {l : List ByteArray} (h : Txt l) (t : ByteArray) : sl (jl l ++ t) = l ++ sl t := by
  unfold sl
  have e : (jl l ++ t).data.toList = jn (l.map (fun s => s.data.toList)) ++ t.data.toList := by
    rw [← jl_data]; simp [ByteArray.data_append]
  rw [e, sp_jn _ (txt_free h), List.map_append, map_mk_of]
theorem jl_sl (s : ByteArray) : jl (sl s) = if s.data.toList = [] ∨ s.data.toList.getLast? = some 10 then s else mk (s.data.toList ++ [10]) := by
  unfold jl sl
  rw [map_of_mk, jn_sp]
  split
  · exact mk_of s
  · rfl

/-! common prefixes and suffixes -/
def cp : List ByteArray → List ByteArray → Nat
  | x :: a, y :: b => if x = y then cp a b + 1 else 0
  | _, _ => 0
theorem cp_le (a b : List ByteArray) : cp a b ≤ a.length ∧ cp a b ≤ b.length := by
  induction a generalizing b with
  | nil => simp [cp]
  | cons x r ih =>
    cases b with
    | nil => simp [cp]
    | cons y t => have := ih t; simp only [cp]; split <;> simp <;> omega
theorem cp_take (a b : List ByteArray) : a.take (cp a b) = b.take (cp a b) := by
  induction a generalizing b with
  | nil => simp [cp]
  | cons x r ih =>
    cases b with
    | nil => simp [cp]
    | cons y t =>
      simp only [cp]; split
      · rename_i e; simp [ih t, e]
      · simp
theorem cp_next (a b : List ByteArray) (h1 : cp a b < a.length) (h2 : cp a b < b.length) : a[cp a b] ≠ b[cp a b] := by
  induction a generalizing b with
  | nil => simp at h1
  | cons x r ih =>
    cases b with
    | nil => simp at h2
    | cons y t =>
      by_cases e : x = y
      · have hc : cp (x :: r) (y :: t) = cp r t + 1 := by simp [cp, e]
        simp only [hc, List.getElem_cons_succ]
        exact ih t (by rw [hc] at h1; simpa using h1) (by rw [hc] at h2; simpa using h2)
      · have hc : cp (x :: r) (y :: t) = 0 := by simp [cp, e]
        simpa [hc] using e
theorem cp_drop (a b : List ByteArray) (k : Nat) (h : a.take k = b.take k) (ha : k ≤ a.length) (hb : k ≤ b.length) : cp a b = k + cp (a.drop k) (b.drop k) := by
  induction k generalizing a b with
  | zero => simp
  | succ k ih =>
    cases a with
    | nil => simp at ha
    | cons x r =>
      cases b with
      | nil => simp at hb
      | cons y t =>
        simp at h ha hb
        obtain ⟨e, h⟩ := h
        simp only [cp, List.drop_succ_cons, if_pos e]
        rw [ih r t h ha hb]; omega
theorem cp_nil (a : List ByteArray) : cp a [] = 0 := by cases a <;> rfl
theorem cp_stop (a b : List ByteArray) (k : Nat) (h : a.take k = b.take k) (ha : k ≤ a.length) (hb : k ≤ b.length)
    (hs : a.length ≤ k ∨ b.length ≤ k ∨ ∃ (h1 : k < a.length) (h2 : k < b.length), a[k] ≠ b[k]) : cp a b = k := by
  rw [cp_drop a b k h ha hb]
  suffices cp (a.drop k) (b.drop k) = 0 by omega
  rcases hs with hs | hs | ⟨h1, h2, hne⟩
  · rw [List.drop_eq_nil_of_le hs]; rfl
  · rw [List.drop_eq_nil_of_le hs]; exact cp_nil _
  · rw [List.drop_eq_getElem_cons h1, List.drop_eq_getElem_cons h2]
    simp only [cp]; rw [if_neg hne]
/-- the length of the longest common suffix -/
def cs (a b : List ByteArray) : Nat := cp a.reverse b.reverse
theorem cs_le (a b : List ByteArray) : cs a b ≤ a.length ∧ cs a b ≤ b.length := by
  have := cp_le a.reverse b.reverse
  simpa [cs] using this
theorem cs_drop (a b : List ByteArray) : a.drop (a.length - cs a b) = b.drop (b.length - cs a b) := by
  have h := cp_take a.reverse b.reverse
  have hl := cs_le a b
  have h' : (a.reverse.take (cs a b)).reverse = (b.reverse.take (cs a b)).reverse := by unfold cs; rw [h]
  rw [List.take_reverse, List.take_reverse, List.reverse_reverse, List.reverse_reverse] at h'
  exact h'
theorem cs_next (a b : List ByteArray) (h1 : cs a b < a.length) (h2 : cs a b < b.length) : a[a.length - 1 - cs a b] ≠ b[b.length - 1 - cs a b] := by
  have h := cp_next a.reverse b.reverse (by rw [List.length_reverse]; exact h1) (by rw [List.length_reverse]; exact h2)
  rw [List.getElem_reverse, List.getElem_reverse] at h
  exact h
theorem jn_take (l : List ByteArray) (k : Nat) (h : k < l.length) : jn ((l.take (k + 1)).map (fun s => s.data.toList)) = jn ((l.take k).map (fun s => s.data.toList)) ++ l[k].data.toList ++ [10] := by
  rw [List.take_succ_eq_append_getElem h, List.map_append, List.map_singleton, jn_snoc]
theorem jn_bd (l : List ByteArray) (h : ∀ s ∈ l, s.size ≤ 80) : (jn (l.map (fun s => s.data.toList))).length ≤ 81 * l.length := by
  induction l with
  | nil => simp [jn]
  | cons a r ih =>
    rw [List.map_cons, jn_cons]
    have := ih (fun s hs => h s (by simp [hs]))
    have ha := h a (by simp)
    have : a.data.toList.length = a.size := by rw [Array.length_toList]; rfl
    simp only [List.length_append, List.length_cons]
    omega
theorem txt_size {l : List ByteArray} (h : Txt l) : ∀ s ∈ l, s.size ≤ 80 := fun s hs => (lc_zero (h.2 s hs)).1
end Go.Proofs.Ytidncnhhjfdifaa.Lin
