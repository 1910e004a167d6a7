
/-
  The reference's Invert, walked.
-/
import Derived.Test.YtkfloglpihbdjaaTpE
namespace Go.Proofs.Ytkfloglpihbdjaa
open Go.RowKit
set_option maxRecDepth 4000

/-- the inverse while it is made: k hunks lie in the slice of block pg -/
structure Iv (hs : List Tp.H) (w : World) (pg k : Nat) (wr : World) : Prop where
  ex : ∃ v rs, One wr pg v ∧ OwnE hkE (pg + 1) wr v rs ∧ rs.length = k ∧ ∀ (j : Nat) (h : j < rs.length) (h' : j < hs.length), (rs[j]).1 = (hs[j]).at' + Tp.gr (hs.take j) ∧ Rd w (rs[j]).2.1 (hs[j]).new ∧ Rd w (rs[j]).2.2 (hs[j]).old
theorem Iv.start (hs : List Tp.H) (w wr : World) (pg : Nat) (h : One wr pg (.slice none 0 0)) : Iv hs w pg 0 wr :=
  ⟨⟨_, [], h, ownE_nil _ _ _, rfl, fun j h => by simp at h⟩⟩
theorem iv_ptc {hs : List Tp.H} {w W : World} {base : Nat} {v : Value} {rs : List (Int × Sv × Sv)} (h2 : OwnE hkE base W v rs) (h3 : rs.length = hs.length)
    (h4 : ∀ (j : Nat) (h : j < rs.length) (h' : j < hs.length), (rs[j]).1 = (hs[j]).at' + Tp.gr (hs.take j) ∧ Rd w (rs[j]).2.1 (hs[j]).new ∧ Rd w (rs[j]).2.2 (hs[j]).old) (hb : Below w.heap.size w W) :
    ∃ p cap, v = .slice p (Tp.iv 0 hs).length cap ∧ Ptc W p (Tp.iv 0 hs) ∧ (p = none → cap = 0) ∧ (Tp.iv 0 hs).length ≤ cap := by
  obtain ⟨p, cap, e, hr, hc, hn, -⟩ := row_of_own h2
  have e1 : (Tp.iv 0 hs).length = rs.length := by rw [Tp.iv_len, h3]
  refine ⟨p, cap, by rw [e1, ← e], ⟨fun hp => List.length_eq_zero_iff.1 (by rw [e1, hr.nil' hp]; rfl), fun hne => ?_⟩, hc, by rw [e1]; exact hn⟩
  obtain ⟨b, off, k1, k2, k3⟩ := hr.at' (fun e => hne (List.length_eq_zero_iff.1 (by rw [e1, e]; rfl)))
  refine ⟨b, off, k1, k2, fun i hi => ?_⟩
  have hi' : i < rs.length := by omega
  obtain ⟨q1, q2, q3⟩ := h4 i hi' (by omega)
  have kk := k3 i hi'
  rw [Tp.iv_get hs 0 i (by omega) hi]
  refine ⟨(rs[i]).2.1, (rs[i]).2.2, ?_, kk 1 _ rfl, kk 2 _ rfl, q2.mono hb, q3.mono hb⟩
  have k0 : W.cell? ⟨b, off + i * 3, none⟩ = some (.int .i64 (rs[i]).1) := kk 0 _ rfl
  rw [k0, q1]
  show some (Value.int .i64 (hs[i].at' + Tp.gr (hs.take i))) = some (Value.int .i64 (hs[i].at' + 0 + Tp.gr (hs.take i)))
  rw [Int.add_zero]

/-- a hunk more: the row was appended and the out patch's cell written -/
theorem iv_push {hs : List Tp.H} {w W wr w3 : World} {k pg gg cc : Nat} {v : Value} {rs : List (Int × Sv × Sv)} {o n : Sv} (hk : k < hs.length) (hrl : rs.length = k)
    (hra : ∀ (j : Nat) (h : j < rs.length) (h' : j < hs.length), (rs[j]).1 = (hs[j]).at' + Tp.gr (hs.take j) ∧ Rd w (rs[j]).2.1 (hs[j]).new ∧ Rd w (rs[j]).2.2 (hs[j]).old)
    (ro : Rd w o hs[k].old) (rn : Rd w n hs[k].new) (own : OwnE hkE (pg + 1) wr v rs) (og : One wr pg v) (hB : Below pg W wr) (hpW : pg < wr.heap.size)
    (own2 : OwnE hkE (pg + 1) w3 (.slice (some ⟨gg, 0, none⟩) (rs.length + 1) cc) (rs ++ [(hs[k].at' + Tp.gr (hs.take k), n, o)])) (G2 : wr.grownBy w3 v.ownBlock) :
    Iv hs w pg (k + 1) (w3.setCell ⟨pg, 0, none⟩ (.slice (some ⟨gg, 0, none⟩) (k + 1) cc)) ∧ Below pg W (w3.setCell ⟨pg, 0, none⟩ (.slice (some ⟨gg, 0, none⟩) (k + 1) cc)) := by
  have hv : v.ownBlock ≠ some pg := fun e => by have := own_block own _ e; omega
  have z1 := G2.cell og.c (Ne.symm hv)
  have z2 : w3.frozen? ⟨pg, 0, none⟩ = false := by rw [G2.frozen_far ⟨pg, 0, none⟩ (by dsimp only; omega) (Ne.symm hv), og.f]
  rw [hrl] at own2
  refine ⟨⟨_, _, ⟨World.cell?_setCell_same _ _ _ z1, by rw [World.frozen?_setCell]; exact z2⟩, ownsRow_setCell_below own2 (a := ⟨pg, 0, none⟩) (by dsimp only; omega) _, by simp [hrl], fun j h h' => ?_⟩,
    (hB.grown G2 (by omega) fun b hb => by have := own_block own _ hb; omega).setCell (by dsimp only; omega) _⟩
  rcases Nat.lt_or_ge j rs.length with hj | hj
  · rw [List.getElem_append_left hj]
    exact hra j hj h'
  · have : j = k := by simp at h; omega
    subst this
    subst hrl
    rw [List.getElem_append_right (Nat.le_refl _)]
    simp only [Nat.sub_self, List.getElem_cons_zero]
    exact ⟨trivial, rn, ro⟩

def IvPost (hs : List Tp.H) (w : World) (e : Ending) (w' : World) : Prop :=
  ∃ p cap, e = .returned (.tuple #[.agg #[.slice p (Tp.vT hs).length cap], .agg #[.int .i64 (Tp.vC' hs), .int .i64 (Tp.vI' hs)]]) ∧ Ptc w' p (Tp.vT hs) ∧ (p = none → cap = 0) ∧ (Tp.vT hs).length ≤ cap ∧ Below w.heap.size w w'

end Go.Proofs.Ytkfloglpihbdjaa
