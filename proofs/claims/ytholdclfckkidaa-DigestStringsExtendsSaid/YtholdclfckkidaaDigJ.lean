/-
  digest.Strings told for every list; the walk of DigestStringsExtends.
-/
import Derived.Test.YtholdclfckkidaaDigG
namespace Go.Proofs.Ytholdclfckkidaa
open Go.RowKit Go.Lib

def stOk (l : List ByteArray) : Bool := decide (l.length ≤ 120) && l.all (fun s => decide (s.size ≤ 4096))
def stV (l : List ByteArray) : Int := if stOk l then (Dig.dstr (l.map bl) : Nat) else 0
def stC (l : List ByteArray) : Int := if stOk l then 0 else 2
def stI (l : List ByteArray) : Int := if l.length ≤ 120 then (if stOk l then 0 else (l.findIdx (fun s => decide (4096 < s.size)) : Nat)) else -1
theorem stOk_iff (l : List ByteArray) : stOk l = true ↔ l.length ≤ 120 ∧ ∀ s ∈ l, s.size ≤ 4096 := by simp [stOk]

theorem strings_any (p : Option Addr) (l : List ByteArray) (n cap : Nat) (w : World) (hn : n = l.length) (hp : Sts w p l) :
    Calls Try.prog 15 #[.slice p n cap] w (BPost (.tuple #[.int .i64 (stV l), .agg #[.int .i64 (stC l), .int .i64 (stI l)]]) w) := by
  subst hn
  unfold stV stC stI
  by_cases h1 : l.length ≤ 120
  · by_cases h2 : stOk l = true
    · rw [if_pos h2, if_pos h2, if_pos h1, if_pos h2]
      exact strings_ok p l cap h1 ((stOk_iff l).1 h2).2 w hp
    · rw [if_neg h2, if_neg h2, if_pos h1, if_neg h2]
      have hex : ∃ x ∈ l, (fun s : ByteArray => decide (4096 < s.size)) x = true := by
        apply Classical.byContradiction
        intro hno
        apply h2
        rw [stOk_iff]
        refine ⟨h1, fun s hs => ?_⟩
        apply Classical.byContradiction
        intro hlt
        exact hno ⟨s, hs, by simp; omega⟩
      have hlt := List.findIdx_lt_length_of_exists hex
      have hbad := List.findIdx_getElem (xs := l) (p := fun s : ByteArray => decide (4096 < s.size)) (w := hlt)
      refine strings_bad p l cap _ h1 hlt (by simpa using hbad) (fun i hi => ?_) w hp
      have := List.not_of_lt_findIdx hi
      simpa using this
  · have h2 : ¬ stOk l = true := by rw [stOk_iff]; omega
    rw [if_neg h2, if_neg h2, if_neg h1]
    exact strings_long p l.length cap (by omega) hp.len w

theorem stC_ok (l : List ByteArray) (h : stOk l = true) : stC l = 0 := if_pos h
theorem stC_no (l : List ByteArray) (h : ¬ stOk l = true) : stC l = 2 := if_neg h

set_option maxHeartbeats 4000000 in
theorem stringsExtends_walk (p : Option Addr) (l : List ByteArray) (cap : Nat) (s : ByteArray) (w : World)
    (hp : Sts w p l) (hcap : p = none → cap = 0) (hl : l.length ≤ 8796093021952) (hs : s.size ≤ 140737488351232) :
    Calls Try.prog 8 #[.slice p l.length cap, .string s] w (TPost w) := by
  have HP := Lib.hid hp
  have HC := Lib.hid hcap
  clear hp hcap
  have hcv := fun w s => run_bytes_of_string (P := Try.prog) w 9 22 5 s Try.underlying9 Try.underlying22 Try.underlying5
  go_enter Try.func8, Try.ntmps8
  go_wp2_with fail
  refine (strings_any _ l _ _ _ rfl HP.out).mono ?_
  rintro e w1 ⟨rfl, u1⟩
  have F1 := Lib.hid (Flt.new w1 (stC l) (stI l) 25)
  go_wp2_with (rw [hcv])
  refine (of_any _ (bl s) _ _ _ (bl_length s).symm (bts_drew (bts_new _ _ s _ _ _ (by simp) hs) 1)).mono ?_
  rintro e w2 ⟨rfl, hb2⟩
  have e2 : Below (w1.heap.size + 1) (w1.alloc (.cells #[.int .i64 (stC l), .int .i64 (stI l)] 25 (0, 0))) w2 :=
    (((Below.refl _ _).alloc (by simp) _).drew).trans (hb2.mono (by simp))
  have F1' := Lib.hid (F1.out.mono e2 (by omega))
  have u2 := (up_alloc u1 _).trans (e2.mono (by have := u1.size; omega))
  have F2 := Lib.hid (Flt.new w2 (ofC (bl s)) 0 25)
  have hz2 := u2.size
  have HP2 := Lib.hid (HP.out.mono u2)
  clear hb2 u1 F1 e2
  go_wp2_with (first
    | (at_builtin; refine wp_appS rfl (.tmp 25) (.tmp 26) rfl (w2.heap.size + 1) _ [] l p cap rfl (ownS_empty _ _ _ (by simp) (by simp)) rfl (HP2.out.mono (up_alloc (up_alloc (Below.refl _ _) _) _)) HC.out (by simp; omega) (by simp) ?_; intro v4 w4 own4 bel4)
    | (at_builtin; refine wp_appS rfl (.tmp 27) (.tmp 29) rfl (w2.heap.size + 1) _ _ [s] _ _ rfl (own4.alloc _) rfl (sts_one _ _ s rfl hs) (fun h => by cases h) (by simp; omega) (by have := bel4.size; simp at this; simp; omega) ?_; intro v5 w5 own5 bel5))
  obtain ⟨p5, cap5, rfl, bt5, -⟩ := sts_of_own own5 (snoc_sizes HP.out.small hs) (by simp; omega)
  have e5 : Below (w2.heap.size + 1) (w2.alloc (.cells #[.int .i64 (ofC (bl s)), .int .i64 0] 25 (0, 0))) w5 :=
    ((((Below.refl _ _).alloc (by simp) _).trans bel4).alloc (by have := bel4.size; simp at this; omega) _).trans bel5
  refine (strings_any _ (l ++ [s]) _ _ _ (by simp) bt5).mono ?_
  rintro e w6 ⟨rfl, hb6⟩
  have e6 := e5.trans (hb6.mono (by have := e5.size; simp at this; omega))
  have u6 := Lib.hid ((up_alloc u2 _).trans (e6.mono (by omega)))
  have F1'' := Lib.hid ((F1'.out.alloc (.cells #[.int .i64 (ofC (bl s)), .int .i64 0] 25 (0, 0))).mono e6 (by have := F1'.out.lt; omega))
  have F2' := Lib.hid (F2.out.mono e6 (by omega))
  have hz6 : w2.heap.size < w6.heap.size := by have := e6.size; simp at this; omega
  have hz1 : w1.heap.size < w6.heap.size := F1''.out.lt
  clear own4 own5 bel4 bel5 e5 hb6 bt5 e6 u2 F1' F2 HP2 hcv
  obtain ⟨c1, -, -, -, l1⟩ := F1''.out
  obtain ⟨c2, -, -, -, l2⟩ := F2'.out
  by_cases h1 : stOk l = true ∧ s.size ≤ 4096 ∧ l.length + 1 ≤ 120
  · obtain ⟨h1, h2, h3⟩ := h1
    have h4 : stOk (l ++ [s]) = true := by
      rw [stOk_iff] at h1 ⊢
      exact ⟨by simpa using h3, snoc_sizes h1.2 h2⟩
    have k1 : (stC l != 0) = false := by rw [stC_ok _ h1]; rfl
    have k2 : (ofC (bl s) != 0) = false := by rw [ofC_zero _ (by rw [bl_length]; omega)]; rfl
    have k3 : (stC (l ++ [s]) != 0) = false := by rw [stC_ok _ h4]; rfl
    have k4 : Hid (pC (stV l) (ofV (bl s)) = 0 ∧ pV (stV l) (ofV (bl s)) = stV (l ++ [s])) := Lib.hid (by
      have d1 := Dig.dstr_lt (l.map bl)
      have d2 := Dig.dof_lt (bl s)
      have a1 : stV l = (Dig.dstr (l.map bl) : Nat) := if_pos h1
      have a2 : ofV (bl s) = (Dig.dof (bl s) : Nat) := ofV_ok _ (by rw [bl_length]; omega)
      have a3 : stV (l ++ [s]) = (Dig.dstr ((l ++ [s]).map bl) : Nat) := if_pos h4
      have g1 : Dg ((Dig.dstr (l.map bl) : Nat) : Int) := ⟨by omega, by omega⟩
      have g2 : Dg ((Dig.dof (bl s) : Nat) : Int) := ⟨by omega, by omega⟩
      rw [a1, a2, a3, pC, pV, if_pos ⟨g1, g2⟩, if_pos ⟨g1, g2⟩, List.map_append, List.map_singleton, Dig.dstr_snoc]
      exact ⟨rfl, rfl⟩)
    clear h1 h2 h3 h4
    go_wp2_with fail
    refine (pair_any (stV l) (ofV (bl s)) _).mono ?_
    rintro e w7 ⟨rfl, hb7⟩
    rw [k4.out.1, k4.out.2]
    have u7 := up_call (up_alloc u6.out _) hb7
    go_wp2_with fail
    refine (closed_any _).mono ?_
    rintro e w' ⟨rfl, hb8⟩
    go_wp2_with fail
    go_ret
    refine ⟨rfl, ?_⟩
    exact up_call (up_alloc u7 _) hb8
  · have hk : (stC l != 0) = true ∨ (stC l != 0) = false ∧ (ofC (bl s) != 0) = true ∨ (stC l != 0) = false ∧ (ofC (bl s) != 0) = false ∧ (stC (l ++ [s]) != 0) = true := by
      by_cases a1 : stOk l = true
      · by_cases a2 : s.size ≤ 4096
        · right; right
          refine ⟨by rw [stC_ok _ a1]; rfl, by rw [ofC_zero _ (by rw [bl_length]; omega)]; rfl, ?_⟩
          rw [stC_no]; rfl
          rw [stOk_iff]
          intro h
          exact h1 ⟨a1, a2, by simpa using h.1⟩
        · right; left
          refine ⟨by rw [stC_ok _ a1]; rfl, ?_⟩
          rw [ofC_two _ (by rw [bl_length]; omega)]; rfl
      · left; rw [stC_no _ a1]; rfl
    clear h1
    rcases hk with k1 | ⟨k1, k2⟩ | ⟨k1, k2, k3⟩
    all_goals
      go_wp2_with fail
      refine (closed_any _).mono ?_
      rintro e w' ⟨rfl, hb7⟩
      go_wp2_with fail
      go_ret
      refine ⟨rfl, ?_⟩
      exact up_call (up_alloc u6.out _) hb7
end Go.Proofs.Ytholdclfckkidaa
