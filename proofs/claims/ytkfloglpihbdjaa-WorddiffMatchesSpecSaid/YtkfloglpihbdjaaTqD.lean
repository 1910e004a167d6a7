
/-
  The program's Apply, walked.
-/
import Derived.Test.YtkfloglpihbdjaaTqA
import Derived.Test.YtkfloglpihbdjaaTpD
namespace Go.Proofs.Ytkfloglpihbdjaa
open Go.RowKit
set_option maxRecDepth 4000

namespace Tp
theorem ch_gap {hs : List H} : ∀ {prev : Int}, Ch prev hs → ∀ (k : Nat) (h : k < hs.length), (if hk : 0 < k ∧ k - 1 < hs.length then en (hs[k - 1]'hk.2) else prev) < hs[k].at' := by
  induction hs with
  | nil => intro prev _ k h; simp at h
  | cons x r ih =>
    intro prev hc k h
    cases k with
    | zero => rw [dif_neg (by omega)]; exact hc.1.gap
    | succ k =>
      have := ih hc.2 k (by simpa using h)
      rw [dif_pos ⟨by omega, by simp at h ⊢; omega⟩]
      by_cases hk : 0 < k
      · rw [dif_pos ⟨hk, by simp at h; omega⟩] at this
        obtain ⟨m, rfl⟩ : ∃ m, k = m + 1 := ⟨k - 1, by omega⟩
        simpa using this
      · obtain rfl : k = 0 := by omega
        rw [dif_neg (by omega)] at this
        simpa using this
theorem ap_step (t : List ByteArray) (hs : List H) (k f : Nat) (h : k < hs.length) : ap t f (hs.drop k) = mid t f hs[k].at'.toNat ++ hs[k].new ++ ap t (en hs[k]).toNat (hs.drop (k + 1)) := by
  rw [List.drop_eq_getElem_cons h, ap]
end Tp
theorem pv_gap {hs : List Tp.H} (h : Tp.Ch (-1) hs) (k : Nat) (hk : k < hs.length) : pvE hs k < hs[k].at' := Tp.ch_gap h k hk

/-- 'append(v, x...)' for a slice of strings of the call's own: what else lies where v does not is as it was -/
theorem wp_appG {ops : Array Oper} {rest : List Oper} {o : Oper} {a : Act} {Q : Exit → Act → World → Prop} {w : World} (hgd : o.guard = none) (s x : Operand)
    (ho : o.op = .call { callee := .builtin .append, args := #[s, x], argTypes := #[22, 22] })
    (base : Nat) (v : Value) (l m : List ByteArray) (p : Option Addr) (cap : Nat) (hs : a.eval s = v) (hown : OwnS base w v l) (hx : a.eval x = .slice p m.length cap) (hp : Sts w p m) (hcap : p = none → cap = 0)
    (hlen : l.length + m.length ≤ 8796093022208) (hbase : base ≤ w.heap.size)
    (h : ∀ v' w', OwnS base w' v' (l ++ m) → w.grownBy w' v.ownBlock → wpList Try.prog ops Q rest (a.put o.dst v') w') : wpList Try.prog ops Q (o :: rest) a w := by
  obtain ⟨i0, hi, hz0, hz1, hz2⟩ := info_parts infoS
  cases p with
  | none =>
    have hm := hp.nil' rfl
    subst hm
    have hc := hcap rfl
    subst hc
    refine wpList_append_own_none hgd s x 22 ho base 9 i0 1 Try.underlying22 hi v l.length (l.map strv) hs hown hx ?_
    exact h v w (by rw [List.append_nil]; exact hown) (World.grownBy.refl _ _)
  | some ad =>
    refine wpList_append_own _ hgd s x 22 ho base 9 i0 (.string ByteArray.empty) 1 16 Try.underlying22 hi hz0 hz1 hz2 rfl (by decide) v l.length (l.map strv) hs hown ad m.length cap (m.map strv) hx (by simp) ?_ ?_ (by unfold maxLen; omega) (by omega) hbase ?_
    · intro j u hj
      have hjl : j < m.length := by simpa using (List.getElem?_eq_some_iff.1 hj).1
      obtain ⟨b, off, e, hlt, hc⟩ := hp.at' (by intro e; subst e; simp at hjl)
      cases e
      rw [add_at, hc j hjl]
      simp [hjl, strv] at hj
      rw [← hj]
      simp [List.getD_eq_getElem?_getD, hjl]
    · intro u hu
      obtain ⟨n, _, rfl⟩ := List.mem_map.1 hu
      rfl
    · intro v' w' h1 h2 _
      refine h v' w' ?_ h2
      unfold OwnS
      rw [List.length_append, List.map_append]
      exact h1
theorem Hu.grown {w w' : World} {g : Nat} {z : Int} {o n : Value} (h : Hu w g z o n) {row : Option Nat} (hg : w.grownBy w' row) (hr : row ≠ some g) : Hu w' g z o n :=
  ⟨hg.cell h.c0 (Ne.symm hr), hg.cell h.c1 (Ne.symm hr), hg.cell h.c2 (Ne.symm hr), Nat.lt_of_lt_of_le h.lt hg.size⟩

/-- a hunk's block, known whole -/
theorem hunk_blk (w : World) (cs : Array Value) (t : TypeId) : (w.alloc (.cells cs t (0, 0))).heap[w.heap.size]? = some (.cells cs t (0, 0)) := by
  show (w.heap.push _)[w.heap.size]? = _
  simp
theorem own_ne {base g : Nat} {w : World} {v : Value} {l : List ByteArray} {cs : Array Value} (h : OwnS base w v l) (hb : w.heap[g]? = some (.cells cs 67 (0, 0))) : v.ownBlock ≠ some g := by
  obtain ⟨h1, ⟨rfl, -⟩ | ⟨g', cap, cur, e, hg, hc, r⟩⟩ := h
  · intro e; cases e
  · intro e'
    rw [e] at e'
    cases e'
    rw [hb] at hc
    simp at hc
theorem One.mono {w w' : World} {g B : Nat} {v : Value} (h : One w g v) (hb : Below B w w') (hg : g < B) : One w' g v :=
  ⟨by rw [hb.cell (p := ⟨g, 0, none⟩) hg, h.c], by rw [hb.frozen (p := ⟨g, 0, none⟩) hg, h.f]⟩

/-- what Apply has made of the first k hunks: r; the text from line f on is left -/
structure ApI (t : List ByteArray) (hs : List Tp.H) (k f : Nat) (r : List ByteArray) : Prop where
  ap : r ++ Tp.ap t f (hs.drop k) = Tp.ap t 0 hs
  cf : Tp.cf t (hs.drop k) k = Tp.cf t hs 0
  ft : f ≤ t.length
  pv : (f : Int) ≤ pvE hs k + 1
  rl : r.length ≤ 240 * k
theorem ApI.start (t : List ByteArray) (hs : List Tp.H) : ApI t hs 0 0 [] := ⟨rfl, rfl, Nat.zero_le _, by rw [pvE_zero]; omega, by simp⟩
theorem ApI.next {t : List ByteArray} {hs : List Tp.H} {k f : Nat} {r : List ByteArray} (h : ApI t hs k f r) (hv : Tp.Vp hs) (ht : t.length ≤ 120) (hk : k < hs.length) (hh : Tp.has t hs[k] = true) :
    ApI t hs (k + 1) (Tp.en hs[k]).toNat (r ++ mid t f hs[k].at'.toNat ++ hs[k].new) ∧ f ≤ hs[k].at'.toNat ∧ hs[k].at'.toNat ≤ t.length := by
  have hg := pv_gap hv.ch k hk
  obtain ⟨⟨pr, hok⟩, -⟩ := Tp.ch_at hv.ch k hk
  have hp := h.pv
  have hn := (Lin.vC_zero hok.new).1
  have h1 := (Tp.has_true.1 hh).hi
  have h0 := hok.lo
  have e : Tp.en hs[k] = hs[k].at' + hs[k].old.length := rfl
  have rl := h.rl
  have lm : (mid t f hs[k].at'.toNat).length ≤ 120 := by rw [mid_size t f _ (by omega)]; omega
  refine ⟨⟨?_, ?_, by omega, ?_, ?_⟩, by omega, by omega⟩
  · rw [← h.ap, Tp.ap_step t hs k f hk]; simp [List.append_assoc]
  · rw [← h.cf, cf_next t hs k hk, if_pos hh]
  · rw [pvE_succ hs k hk]; omega
  · rw [List.length_append, List.length_append]; omega
theorem ApI.fault {t : List ByteArray} {hs : List Tp.H} {k f : Nat} {r : List ByteArray} (h : ApI t hs k f r) (hk : k < hs.length) (hh : Tp.has t hs[k] = false) : Tp.cf t hs 0 = some k := by
  rw [← h.cf, cf_next t hs k hk, hh]; rfl
theorem ApI.last {t : List ByteArray} {hs : List Tp.H} {k f : Nat} {r : List ByteArray} (h : ApI t hs k f r) (hk : ¬ k < hs.length) : Tp.cf t hs 0 = none ∧ r ++ t.drop f = Tp.ap t 0 hs := by
  have e : hs.drop k = [] := List.drop_eq_nil_of_le (by omega)
  have h1 := h.ap
  have h2 := h.cf
  rw [e] at h1 h2
  exact ⟨h2.symm, h1⟩

end Go.Proofs.Ytkfloglpihbdjaa
