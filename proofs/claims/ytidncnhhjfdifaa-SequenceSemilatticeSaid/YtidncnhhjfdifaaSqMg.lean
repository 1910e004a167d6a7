
/-
  Package sequence: plain mathematics of merging sets of operations.
-/
import Derived.Test.YtidncnhhjfdifaaSqQ
namespace Go.Proofs.Ytidncnhhjfdifaa.Sq
open Go.RowKit
set_option maxRecDepth 4000

/-- what the second set adds -/
def nw (a b : List O) : List O := b.filter fun o => decide (o.id ∉ a.map O.id)
/-- o differs from the operation of a with its identity -/
def clash (a : List O) (o : O) : Bool := a.any fun p => decide (p.id = o.id) && decide (p ≠ o)
def mCI (a b : List O) : Int × Int :=
  if vC a ≠ 0 then (vC a, vI a) else if vC b ≠ 0 then (vC b, -2) else match b.findIdx? (clash a) with
  | some i => (19, i)
  | none => if 60 < a.length + (nw a b).length then (10, -1) else (0, 0)
def mC (a b : List O) : Int := (mCI a b).1
def mI (a b : List O) : Int := (mCI a b).2
def mL (a b : List O) : List O := if mC a b = 0 then srt (a ++ nw a b) else []
theorem find_none {a b : List O} : b.findIdx? (clash a) = none ↔ ∀ p ∈ a, ∀ o ∈ b, p.id = o.id → p = o := by
  rw [List.findIdx?_eq_none_iff]
  unfold clash
  constructor
  · intro h p hp o ho e
    have := h o ho
    rw [List.any_eq_false] at this
    have := this p hp
    simp only [Bool.and_eq_true, decide_eq_true_eq, not_and] at this
    exact Decidable.byContradiction fun hne => this e hne
  · intro h o ho
    rw [List.any_eq_false]
    intro p hp
    simp only [Bool.and_eq_true, decide_eq_true_eq, not_and]
    intro e hne
    exact hne (h p hp o ho e)
/-- sets that merge -/
structure Mg (a b : List O) : Prop where
  va : Val a
  vb : Val b
  same : ∀ p ∈ a, ∀ o ∈ b, p.id = o.id → p = o
  len : a.length + (nw a b).length ≤ 60
theorem mg_iff (a b : List O) : mC a b = 0 ↔ Mg a b := by
  unfold mC mCI
  by_cases h1 : vC a = 0
  · by_cases h2 : vC b = 0
    · rw [if_neg (by simpa using h1), if_neg (by simpa using h2)]
      cases hf : b.findIdx? (clash a) with
      | some k =>
        refine ⟨fun h => by simp at h, fun h => ?_⟩
        rw [find_none.2 h.same] at hf; cases hf
      | none =>
        dsimp only
        by_cases hl : 60 < a.length + (nw a b).length
        · rw [if_pos hl]
          exact ⟨fun h => by simp at h, fun h => by have := h.len; omega⟩
        · rw [if_neg hl]
          exact ⟨fun _ => ⟨val_of h1, val_of h2, find_none.1 hf, by omega⟩, fun _ => rfl⟩
    · rw [if_neg (by simpa using h1), if_pos h2]
      exact ⟨fun h => (h2 h).elim, fun h => (h2 (val_to h.vb).1).elim⟩
  · rw [if_pos h1]
    exact ⟨fun h => (h1 h).elim, fun h => (h1 (val_to h.va).1).elim⟩
theorem mI_zero {a b : List O} (h : mC a b = 0) : mI a b = 0 := by
  have hm := (mg_iff a b).1 h
  have h1 := (val_to hm.va).1
  have h2 := (val_to hm.vb).1
  unfold mI mCI
  rw [if_neg (by simpa using h1), if_neg (by simpa using h2), find_none.2 hm.same]
  dsimp only
  rw [if_neg (by have := hm.len; omega)]
theorem nd_of {l : List O} (h : (l.map O.id).Nodup) : l.Nodup := by
  rw [List.Nodup, List.pairwise_map] at h
  exact h.imp fun hh e => hh (by rw [e])
theorem one_set {S T : List O} (hs : Srt S) (ht : Srt T) (ns : (S.map O.id).Nodup) (nt : (T.map O.id).Nodup) (h : ∀ o, o ∈ S ↔ o ∈ T) : S = T :=
  srt_uniq ((List.perm_ext_iff_of_nodup (nd_of ns) (nd_of nt)).2 h) hs ht ns
theorem mem_nw {a b : List O} {o : O} : o ∈ nw a b ↔ o ∈ b ∧ o.id ∉ a.map O.id := by
  unfold nw
  rw [List.mem_filter, decide_eq_true_eq]
theorem raw_nodup {a b : List O} (ha : Val a) (hb : Val b) : ((a ++ nw a b).map O.id).Nodup := by
  rw [List.map_append, List.nodup_append]
  refine ⟨ha.nd, (List.filter_sublist.map O.id).nodup hb.nd, fun x hx y hy e => ?_⟩
  subst e
  obtain ⟨o, ho, rfl⟩ := List.mem_map.1 hy
  exact (mem_nw.1 ho).2 hx
theorem Mg.mem {a b : List O} (h : Mg a b) (o : O) : o ∈ mL a b ↔ o ∈ a ∨ o ∈ b := by
  unfold mL
  rw [if_pos ((mg_iff a b).2 h), (srt_perm _).mem_iff, List.mem_append, mem_nw]
  constructor
  · rintro (h1 | h1)
    · exact .inl h1
    · exact .inr h1.1
  · rintro (h1 | h1)
    · exact .inl h1
    · by_cases hi : o.id ∈ a.map O.id
      · obtain ⟨p, hp, e⟩ := List.mem_map.1 hi
        exact .inl (h.same p hp o h1 e ▸ hp)
      · exact .inr ⟨h1, hi⟩
theorem Mg.srt {a b : List O} (h : Mg a b) : Srt (mL a b) := by
  unfold mL
  rw [if_pos ((mg_iff a b).2 h)]
  exact srt_srt _
theorem Mg.nd {a b : List O} (h : Mg a b) : ((mL a b).map O.id).Nodup := by
  unfold mL
  rw [if_pos ((mg_iff a b).2 h)]
  exact ((srt_perm _).map O.id).nodup_iff.2 (raw_nodup h.va h.vb)
theorem Mg.leng {a b : List O} (h : Mg a b) : (mL a b).length = a.length + (nw a b).length := by
  unfold mL
  rw [if_pos ((mg_iff a b).2 h), (srt_perm _).length_eq, List.length_append]
theorem Mg.val {a b : List O} (h : Mg a b) : Val (mL a b) := by
  refine ⟨by rw [h.leng]; exact h.len, fun o ho => ?_, h.nd, fun o ho hn => ?_⟩
  · exact ((h.mem o).1 ho).elim (h.va.ok o) (h.vb.ok o)
  · have key : ∀ x : Id, x ∈ a.map O.id ∨ x ∈ b.map O.id → x ∈ (mL a b).map O.id := by
      rintro x (hx | hx) <;> obtain ⟨p, hp, rfl⟩ := List.mem_map.1 hx
      · exact List.mem_map_of_mem ((h.mem p).2 (.inl hp))
      · exact List.mem_map_of_mem ((h.mem p).2 (.inr hp))
    rcases (h.mem o).1 ho with h1 | h1
    · exact key _ (.inl (h.va.has o h1 hn))
    · exact key _ (.inr (h.vb.has o h1 hn))
theorem srt_self {l : List O} (h : Val l) (hs : Srt l) : srt l = l := srt_uniq (srt_perm l) (srt_srt l) hs (((srt_perm l).map O.id).nodup_iff.2 h.nd)
theorem sort_one {a b S : List O} (ha : Val a) (hb : Val b) (hp : S.Perm (a ++ nw a b)) (hs : Srt S) : S = srt (a ++ nw a b) :=
  srt_uniq (hp.trans (srt_perm _).symm) hs (srt_srt _) ((hp.map O.id).nodup_iff.2 (raw_nodup ha hb))
theorem raw_len {a b : List O} (ha : Val a) (hb : Val b) (hs : ∀ p ∈ a, ∀ o ∈ b, p.id = o.id → p = o) : a.length + (nw a b).length = b.length + (nw b a).length := by
  rw [← List.length_append, ← List.length_append]
  refine List.Perm.length_eq ((List.perm_ext_iff_of_nodup (nd_of (raw_nodup ha hb)) (nd_of (raw_nodup hb ha))).2 fun o => ?_)
  rw [List.mem_append, List.mem_append, mem_nw, mem_nw]
  have g : ∀ {x y : List O}, (∀ p ∈ x, ∀ o ∈ y, p.id = o.id → p = o) → ∀ o ∈ y, o ∈ x ∨ o ∈ y ∧ o.id ∉ x.map O.id := fun {x y} hxy o ho => by
    by_cases hi : o.id ∈ x.map O.id
    · obtain ⟨p, hp, e⟩ := List.mem_map.1 hi
      exact .inl (hxy p hp o ho e ▸ hp)
    · exact .inr ⟨ho, hi⟩
  constructor
  · rintro (h1 | h1)
    · exact g (fun p hp o ho e => (hs o ho p hp e.symm).symm) o h1
    · exact .inl h1.1
  · rintro (h1 | h1)
    · exact g hs o h1
    · exact .inl h1.1
theorem Mg.symm {a b : List O} (h : Mg a b) : Mg b a := ⟨h.vb, h.va, fun p hp o ho e => (h.same o ho p hp e.symm).symm, by rw [← raw_len h.va h.vb h.same]; exact h.len⟩
theorem m_comm (a b : List O) : mC a b = 0 ↔ mC b a = 0 := by rw [mg_iff, mg_iff]; exact ⟨Mg.symm, Mg.symm⟩
theorem l_comm {a b : List O} (h : mC a b = 0) : mL a b = mL b a := by
  have hM := (mg_iff a b).1 h
  refine one_set hM.srt hM.symm.srt hM.nd hM.symm.nd fun o => ?_
  rw [hM.mem, hM.symm.mem, Or.comm]
/-- what holds a set already doesn't change by it -/
theorem m_part {x a : List O} (h : Val x) (hs : Srt x) (ha : Val a) (hi : ∀ o ∈ a, o ∈ x) : mC x a = 0 ∧ mL x a = x := by
  have e : nw x a = [] := by
    rw [List.eq_nil_iff_forall_not_mem]
    intro o ho
    exact (mem_nw.1 ho).2 (List.mem_map_of_mem (hi o (mem_nw.1 ho).1))
  have hM : Mg x a := ⟨h, ha, fun p hp o ho e => inj_of h.nd hp (hi o ho) e, by rw [e]; exact h.len⟩
  refine ⟨(mg_iff _ _).2 hM, ?_⟩
  unfold mL
  rw [if_pos ((mg_iff _ _).2 hM), e, List.append_nil, srt_self h hs]
theorem m_again {a b : List O} (h : mC a b = 0) : mC (mL a b) a = 0 ∧ mL (mL a b) a = mL a b := by
  have hM := (mg_iff a b).1 h
  exact m_part hM.val hM.srt hM.va fun o ho => (hM.mem o).2 (.inl ho)
theorem m_assoc {a b c : List O} (h1 : mC a b = 0) (h2 : mC (mL a b) c = 0) (h3 : mC b c = 0) (h4 : mC a (mL b c) = 0) : mL (mL a b) c = mL a (mL b c) := by
  have m1 := (mg_iff _ _).1 h1
  have m2 := (mg_iff _ _).1 h2
  have m3 := (mg_iff _ _).1 h3
  have m4 := (mg_iff _ _).1 h4
  refine one_set m2.srt m4.srt m2.nd m4.nd fun o => ?_
  rw [m2.mem, m1.mem, m4.mem, m3.mem, or_assoc]
theorem mL_len (a b : List O) : (mL a b).length ≤ 60 := by
  by_cases h : mC a b = 0
  · exact ((mg_iff a b).1 h).val.len
  · unfold mL; rw [if_neg h]; simp
theorem mL_mem {a b : List O} {o : O} (h : o ∈ mL a b) : o ∈ a ∨ o ∈ b := by
  by_cases hc : mC a b = 0
  · exact (((mg_iff a b).1 hc).mem o).1 h
  · unfold mL at h; rw [if_neg hc] at h; cases h
end Go.Proofs.Ytidncnhhjfdifaa.Sq
