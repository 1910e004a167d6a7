/-
  The walk of DigestInjective.
-/
import Derived.Test.YtholdclfckkidaaDigG
namespace Go.Proofs.Ytholdclfckkidaa
open Go.RowKit Go.Lib

theorem snoc_ind {α : Type} {P : List α → Prop} (h0 : P []) (h1 : ∀ l b, P l → P (l ++ [b])) (l : List α) : P l := by
  rw [← l.reverse_reverse]
  induction l.reverse with
  | nil => exact h0
  | cons b l ih => rw [List.reverse_cons]; exact h1 _ _ ih
def bst (l : List Nat) : ByteArray := ⟨(l.map UInt8.ofNat).toArray⟩
theorem bst_inj {l m : List Nat} (hl : ∀ x ∈ l, x < 256) (hm : ∀ x ∈ m, x < 256) (h : bst l = bst m) : l = m := by
  have h1 : l.map UInt8.ofNat = m.map UInt8.ofNat := by
    have := congrArg (fun b : ByteArray => b.data.toList) h
    simpa [bst] using this
  have key : ∀ (k : List Nat), (∀ x ∈ k, x < 256) → (k.map UInt8.ofNat).map UInt8.toNat = k := by
    intro k hk
    rw [List.map_map]
    refine (List.map_congr_left (g := id) fun x hx => ?_).trans (List.map_id k)
    have := hk x hx
    simp [UInt8.toNat_ofNat']; omega
  rw [← key l hl, ← key m hm, h1]
theorem str_of_bts {w : World} {p : Option Addr} {l : List Nat} (cap : Nat) (hp : Bts w p l) :
    (convert 22 9 (.slice p l.length cap)).run Try.prog w = .ok (.string (bst l)) w := by
  cases p with
  | none =>
    have := hp.nil' rfl
    subst this
    exact run_convert_bytes_nil w 22 5 Try.underlying22 Try.underlying5 0 cap 9 Try.underlying9
  | some a =>
    have := run_convert_bytes_back (P := Try.prog) w 22 9 5 a cap (l.map UInt8.ofNat) Try.underlying22 Try.underlying5 Try.underlying9 (fun j hj => by
      have hj' : j < l.length := by simpa using hj
      obtain ⟨b, off, e, _, hc⟩ := hp.at' (by intro e; subst e; simp at hj')
      cases e
      rw [add_at, hc j hj']
      have := hp.small l[j] (List.getElem_mem _)
      simp [List.getD_eq_getElem?_getD, hj', UInt8.toNat_ofNat']; omega)
    rw [List.length_map] at this
    exact this

set_option maxHeartbeats 400000 in
theorem same_any (p : Option Addr) (l : List Nat) (cap : Nat) (q : Option Addr) (m : List Nat) (qap : Nat) (w : World) (hp : Bts w p l) (hq : Bts w q m) (r : Bool) (hr : r = decide (l = m)) :
    Calls Try.prog 18 #[.slice p l.length cap, .slice q m.length qap] w fun e w' => e = .returned (.bool r) ∧ w = w' := by
  have h1 := str_of_bts cap hp
  have h2 := str_of_bts qap hq
  have h3 : ((bst l).toList == (bst m).toList) = r := by
    rw [hr, Bool.eq_iff_iff, beq_iff_eq, decide_eq_true_iff, ByteArray.toList_eq, ByteArray.toList_eq]
    exact ⟨fun h => bst_inj hp.small hq.small (by rw [ByteArray.ext_iff, ← Array.toList_inj, h]), fun h => by rw [h]⟩
  clear hp hq
  obtain ⟨x, hx⟩ : ∃ x, x = bst l := ⟨_, rfl⟩
  obtain ⟨y, hy⟩ : ∃ y, y = bst m := ⟨_, rfl⟩
  rw [← hx] at h1 h3
  rw [← hy] at h2 h3
  clear hx hy hr
  go_enter Try.func18, Try.ntmps18
  go_wp2
  go_ret
  exact ⟨rfl, rfl⟩

/-- short sequences: no remainder is taken -/
def raw (l : List Nat) : Nat := l.foldl (fun h b => 257 * h + (b + 1)) 1
theorem raw_snoc (l : List Nat) (b : Nat) : raw (l ++ [b]) = 257 * raw l + (b + 1) := by simp [raw, List.foldl_append]
theorem raw_lt (l : List Nat) (h : ∀ x ∈ l, x < 256) : raw l < 2 * 257 ^ l.length := by
  induction l using snoc_ind with
  | h0 => decide
  | h1 l b ih =>
    have h1 := ih fun x hx => h x (List.mem_append_left _ hx)
    have h2 := h b (by simp)
    rw [raw_snoc, List.length_append, List.length_singleton, Nat.pow_succ]
    have : raw l + 1 ≤ 2 * 257 ^ l.length := h1
    omega
theorem raw_inj (l : List Nat) : ∀ (m : List Nat), l.length = m.length → (∀ x ∈ l, x < 256) → (∀ x ∈ m, x < 256) → raw l = raw m → l = m := by
  induction l using snoc_ind with
  | h0 => intro m h _ _ _; exact (List.length_eq_zero_iff.1 h.symm).symm
  | h1 l b ih =>
    intro m hlen hl hm h
    rcases List.eq_nil_or_concat m with rfl | ⟨m', c, rfl⟩
    · simp at hlen
    · rw [List.concat_eq_append] at *
      rw [raw_snoc, raw_snoc] at h
      have h2 := hl b (by simp)
      have h3 := hm c (by simp)
      have h4 : raw l = raw m' := by omega
      have h5 : b = c := by omega
      rw [ih m' (by simpa using hlen) (fun x hx => hl x (List.mem_append_left _ hx)) (fun x hx => hm x (List.mem_append_left _ hx)) h4, h5]
theorem dof_raw (l : List Nat) (h : ∀ x ∈ l, x < 256) (hl : l.length ≤ 6) : Dig.dof l = raw l := by
  induction l using snoc_ind with
  | h0 => rfl
  | h1 l b ih =>
    have hl' : l.length + 1 ≤ 6 := by simpa using hl
    have h1 := ih (fun x hx => h x (List.mem_append_left _ hx)) (by omega)
    have h2 := h b (by simp)
    have h3 := raw_lt l fun x hx => h x (List.mem_append_left _ hx)
    have h4 : 257 ^ l.length ≤ 257 ^ 5 := Nat.pow_le_pow_right (by decide) (by omega)
    rw [Dig.dof_snoc, raw_snoc, h1]
    unfold Dig.step
    rw [Nat.mod_eq_of_lt]
    have : (257 : Nat) ^ 5 = 1121154893057 := by decide
    omega

set_option maxHeartbeats 2000000 in
theorem injective_walk (p : Option Addr) (l : List Nat) (cap : Nat) (q : Option Addr) (m : List Nat) (qap : Nat) (w : World)
    (hp : Bts w p l) (_ : p = none → cap = 0) (_ : l.length ≤ 140737488351232) (hq : Bts w q m) (_ : q = none → qap = 0) (_ : m.length ≤ 140737488351232) :
    Calls Try.prog 6 #[.slice p l.length cap, .slice q m.length qap] w (TPost w) := by
  have HP := Lib.hid hp
  have HR := Lib.hid hq
  clear hp hq
  by_cases h0 : l.length = m.length ∧ l.length ≤ 6
  · obtain ⟨h0, h1⟩ := h0
    have g0 : ((l.length : Int) != (m.length : Int)) = false := by rw [bne_eq_false_iff_eq]; omega
    have g1 : decide ((6 : Int) < (l.length : Int)) = false := by rw [decide_eq_false_iff_not]; omega
    have k1 : (ofC l == 0) = true := by rw [ofC_zero _ (by omega)]; rfl
    have k2 : (ofC m == 0) = true := by rw [ofC_zero _ (by omega)]; rfl
    have K1 := Lib.hid k1
    have K2 := Lib.hid k2
    clear k1 k2
    have H0 := Lib.hid h0
    clear h0
    go_enter Try.func6, Try.ntmps6
    go_wp2_with fail
    refine (of_any _ l _ _ _ rfl HP.out).mono ?_
    rintro e w1 ⟨rfl, u1⟩
    have F1 := Lib.hid (Flt.new w1 (ofC l) 0 25)
    go_wp2_with fail
    refine (of_any _ m _ _ _ rfl (HR.out.mono (up_alloc u1 _))).mono ?_
    rintro e w2 ⟨rfl, hb2⟩
    obtain ⟨c1, -, -, -, l1⟩ := F1.out.up hb2
    have k1 := K1.out
    have k2 := K2.out
    have u2 := Lib.hid (up_call (up_alloc u1 _) hb2)
    clear u1 F1
    by_cases hcd : l = m
    · subst hcd
      go_wp2_with fail
      refine (same_any _ l _ _ l _ _ (HP.out.mono (up_alloc u2.out _)) (HR.out.mono (up_alloc u2.out _)) true (by simp)).mono ?_
      rintro e w' ⟨rfl, rfl⟩
      go_wp2_with fail
      refine (closed_any _).mono ?_
      rintro e w' ⟨rfl, hb7⟩
      go_wp2_with fail
      go_ret
      refine ⟨rfl, ?_⟩
      exact up_call (up_alloc u2.out _) hb7
    · have h5 : (ofV l == ofV m) = false := by
        rw [beq_eq_false_iff_ne, ofV_ok _ (by have := H0.out; omega), ofV_ok _ (by have := H0.out; omega), dof_raw l HP.out.small h1, dof_raw m HR.out.small (by have := H0.out; omega)]
        intro e; exact hcd (raw_inj l m H0.out HP.out.small HR.out.small (Int.ofNat_inj.1 e))
      go_wp2_with fail
      refine (same_any _ l _ _ m _ _ (HP.out.mono (up_alloc u2.out _)) (HR.out.mono (up_alloc u2.out _)) false (by simp [hcd])).mono ?_
      rintro e w' ⟨rfl, rfl⟩
      go_wp2_with fail
      refine (closed_any _).mono ?_
      rintro e w' ⟨rfl, hb7⟩
      go_wp2_with fail
      go_ret
      refine ⟨rfl, ?_⟩
      exact up_call (up_alloc u2.out _) hb7
  · have hk : ((l.length : Int) != (m.length : Int)) = true ∨ ((l.length : Int) != (m.length : Int)) = false ∧ decide ((6 : Int) < (l.length : Int)) = true := by
      by_cases h : l.length = m.length
      · right; exact ⟨by rw [bne_eq_false_iff_eq]; omega, by rw [decide_eq_true_iff]; omega⟩
      · left; rw [bne_iff_ne]; omega
    clear h0
    rcases hk with k1 | ⟨k1, k2⟩
    all_goals
      go_enter Try.func6, Try.ntmps6
      go_wp2_with fail
      refine (closed_any _).mono ?_
      rintro e w' ⟨rfl, hb7⟩
      go_wp2_with fail
      go_ret
      exact ⟨rfl, hb7⟩
end Go.Proofs.Ytholdclfckkidaa
