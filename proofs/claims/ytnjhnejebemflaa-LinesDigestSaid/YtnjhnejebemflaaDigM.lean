/-
  Plain arithmetic of the digests modulo 2^61 - 1 (no program here).
-/
import Derived.Below
namespace Go.Proofs.Ytnjhnejebemflaa.Dig
/-- the modulus is written out: 2305843009213693951 -/
def step (h b : Nat) : Nat := (257 * h + (b + 1)) % 2305843009213693951
def dof (l : List Nat) : Nat := l.foldl step 1
def pr (a b : Nat) : Nat := (1000003 * a + (31 * b + 7) % 2305843009213693951) % 2305843009213693951
def dstr (l : List (List Nat)) : Nat := l.foldl (fun h s => pr h (dof s)) 2
theorem step_lt (h b : Nat) : step h b < 2305843009213693951 := Nat.mod_lt _ (by omega)
theorem dof_snoc (l : List Nat) (b : Nat) : dof (l ++ [b]) = step (dof l) b := by simp [dof, List.foldl_append]
theorem foldl_step_lt (l : List Nat) (h : Nat) (hh : h < 2305843009213693951) : l.foldl step h < 2305843009213693951 := by
  induction l generalizing h with
  | nil => exact hh
  | cons b l ih => exact ih _ (step_lt _ _)
theorem dof_lt (l : List Nat) : dof l < 2305843009213693951 := foldl_step_lt l 1 (by omega)
theorem dof_nil : dof [] = 1 := rfl
theorem pr_lt (a b : Nat) : pr a b < 2305843009213693951 := Nat.mod_lt _ (by omega)
theorem dstr_snoc (l : List (List Nat)) (s : List Nat) : dstr (l ++ [s]) = pr (dstr l) (dof s) := by simp [dstr, List.foldl_append]
theorem dstr_lt (l : List (List Nat)) : dstr l < 2305843009213693951 := by
  rcases List.eq_nil_or_concat l with rfl | ⟨l', s, rfl⟩
  · show (2 : Nat) < _; omega
  · rw [List.concat_eq_append, dstr_snoc]; exact pr_lt _ _
theorem cancel (M c ci x y : Nat) (hci : ci * c % M = 1 % M) (h : c * x % M = c * y % M) : x % M = y % M := by
  have e : ∀ z, ci * (c * z % M) % M = z % M := by
    intro z
    rw [Nat.mul_mod, Nat.mod_mod, ← Nat.mul_mod, ← Nat.mul_assoc, Nat.mul_mod, hci, ← Nat.mul_mod, Nat.one_mul]
  rw [← e x, ← e y, h]
theorem addL (A u v : Nat) (h : (A + u) % 2305843009213693951 = (A + v) % 2305843009213693951) : u % 2305843009213693951 = v % 2305843009213693951 := by omega
theorem addR (A u v : Nat) (h : (u + A) % 2305843009213693951 = (v + A) % 2305843009213693951) : u % 2305843009213693951 = v % 2305843009213693951 := by omega
theorem pr_left (a b c : Nat) (hb : b < 2305843009213693951) (hc : c < 2305843009213693951) (h : pr a b = pr a c) : b = c := by
  have h1 := addL _ _ _ h
  rw [Nat.mod_mod, Nat.mod_mod] at h1
  have h2 := cancel _ 31 2231460976658413501 b c (by decide) (addR 7 _ _ h1)
  rwa [Nat.mod_eq_of_lt hb, Nat.mod_eq_of_lt hc] at h2
theorem pr_right (a b c : Nat) (hb : b < 2305843009213693951) (hc : c < 2305843009213693951) (h : pr b a = pr c a) : b = c := by
  have h2 := cancel _ 1000003 1229363429801019168 b c (by decide) (addR _ _ _ h)
  rwa [Nat.mod_eq_of_lt hb, Nat.mod_eq_of_lt hc] at h2
theorem step_inj (h a b : Nat) (ha : a < 256) (hb : b < 256) (e : step h a = step h b) : a = b := by
  have h1 := addL _ _ _ e
  omega
theorem step_left (g h a : Nat) (hg : g < 2305843009213693951) (hh : h < 2305843009213693951) (e : step g a = step h a) : g = h := by
  have h2 := cancel _ 257 1327878464449909357 g h (by decide) (addR _ _ _ e)
  rwa [Nat.mod_eq_of_lt hg, Nat.mod_eq_of_lt hh] at h2
theorem take_snoc {α : Type} (l : List α) (k : Nat) (h : k < l.length) : l.take (k + 1) = l.take k ++ [l[k]] := List.take_succ_eq_append_getElem h
end Go.Proofs.Ytnjhnejebemflaa.Dig
