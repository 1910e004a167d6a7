
/-
  Package sequence: the loop of Visible that sorts out deletions and followers.
-/
import Derived.Test.YtidncnhhjfdifaaSqJ
import Derived.Test.YtidncnhhjfdifaaSqL
import Derived.Test.YtidncnhhjfdifaaRegI
import Derived.Test.YtidncnhhjfdifaaRng3
namespace Go.Proofs.Ytidncnhhjfdifaa
open Go.RowKit Go.Shelf
set_option maxRecDepth 4000
attribute [local go_sem] Oper.semAt_some

namespace Sq
/-- what the loop has come by after k rounds -/
def Qk (S : List O) (k : Nat) : List O := S.reverse.take k
def dls (S : List O) (k : Nat) : List El := ((Qk S k).filter (·.del)).map O.el
def fls (S : List O) (k : Nat) (x : El) : List O := (Qk S k).filter fun o => !o.del && decide (o.pr = x)
theorem Qk_next {S : List O} {k m : Nat} (hm : m < S.length) (h : k + m + 1 = S.length) : Qk S (k + 1) = Qk S k ++ [S[m]] := by
  unfold Qk
  rw [List.take_succ_eq_append_getElem (by simp; omega), List.getElem_reverse]
  congr 3
  omega
theorem dls_del {S : List O} {k m : Nat} (hm : m < S.length) (h : k + m + 1 = S.length) (hd : S[m].del = true) : dls S (k + 1) = dls S k ++ [S[m].el] := by
  unfold dls; rw [Qk_next hm h, List.filter_append, List.map_append]; simp [hd]
theorem dls_ins {S : List O} {k m : Nat} (hm : m < S.length) (h : k + m + 1 = S.length) (hd : S[m].del = false) : dls S (k + 1) = dls S k := by
  unfold dls; rw [Qk_next hm h, List.filter_append]; simp [hd]
theorem fls_del {S : List O} {k m : Nat} (hm : m < S.length) (h : k + m + 1 = S.length) (hd : S[m].del = true) (x : El) : fls S (k + 1) x = fls S k x := by
  unfold fls; rw [Qk_next hm h, List.filter_append]; simp [hd]
theorem fls_same {S : List O} {k m : Nat} (hm : m < S.length) (h : k + m + 1 = S.length) (hd : S[m].del = false) : fls S (k + 1) S[m].pr = fls S k S[m].pr ++ [S[m]] := by
  unfold fls; rw [Qk_next hm h, List.filter_append]; simp [hd]
theorem fls_far {S : List O} {k m : Nat} (hm : m < S.length) (h : k + m + 1 = S.length) {x : El} (hx : S[m].pr ≠ x) : fls S (k + 1) x = fls S k x := by
  unfold fls; rw [Qk_next hm h, List.filter_append]; simp [hx]
theorem fls_len (S : List O) (k : Nat) (x : El) : (fls S k x).length ≤ S.length := by
  unfold fls Qk
  refine Nat.le_trans (List.length_filter_le _ _) ?_
  simp
  omega
end Sq
/-- between two rounds, g being what the map of followers holds -/
structure VG (L : World) (md mf : Nat) (S : List Sq.O) (k : Nat) (g : El → Value) (W : World) : Prop where
  same : ∀ j, j < L.heap.size → j ≠ md → j ≠ mf → W.heap[j]? = L.heap[j]?
  st : Below 0 L W
  m5 : Mp Try.prog 77 elV elOk (.bool false) W md k (fun x => .bool (decide (x ∈ Sq.dls S k)))
  m6 : Mp Try.prog 77 elV elOk (.slice none 0 0) W mf k g
  own : ∀ x, elOk x → OwnE opE L.heap.size W (g x) (Sq.fls S k x)
  dis : ∀ x y q, elOk x → elOk y → x ≠ y → (g x).ownBlock = some q → (g y).ownBlock = some q → False
theorem VG.kept {L : World} {md mf : Nat} {S : List Sq.O} {k : Nat} {g : El → Value} {W W' : World} {row : Option Nat} (h : VG L md mf S k g W) (hmd : md < L.heap.size) (hmf : mf < L.heap.size) (hg : W.grownBy W' row)
    (hr : ∀ r, row = some r → L.heap.size ≤ r ∧ ∃ o : Obj, W.heap[r]? = some o ∧ o.isCells = false) : VG L md mf S k g W' := by
  have hz := h.st.size
  refine ⟨fun j hj h1 h2 => ?_, ⟨hg.os.trans h.st.os, hg.tape.trans h.st.tape, hg.output.trans h.st.output, Nat.le_trans hz hg.size, fun _ h => absurd h (Nat.not_lt_zero _)⟩, h.m5.kept hg ?_, h.m6.kept hg ?_, fun x hx => ?_, h.dis⟩
  · rw [hg.block j (by omega) (fun e => by have := (hr j e.symm).1; omega)]
    exact h.same j hj h1 h2
  · intro e; have := (hr _ e.symm).1; omega
  · intro e; have := (hr _ e.symm).1; omega
  · refine (h.own x hx).kept hg ?_
    rcases (h.own x hx).2 with ⟨e, _⟩ | ⟨q, cap, cur, e, hk, hgb, _⟩
    · exact .inl (by rw [e]; rfl)
    · refine .inr fun e' => ?_
      rw [e] at e'
      obtain ⟨o, h3, h4⟩ := (hr q (by simpa [Value.ownBlock] using e'.symm)).2
      rw [hgb] at h3; cases h3; cases h4
def VI (L : World) (md mf : Nat) (S : List Sq.O) (k : Nat) (W : World) : Prop := ∃ g, VG L md mf S k g W
theorem VI.own {L : World} {md mf : Nat} {S : List Sq.O} (hmd : md < L.heap.size) (hmf : mf < L.heap.size) : OwnFrom L.heap.size (VI L md mf S) := by
  rintro k A B row ⟨g, h⟩ hg hr
  exact ⟨g, h.kept hmd hmf hg hr⟩
theorem VG.row {L : World} {md mf : Nat} {S : List Sq.O} {k : Nat} {g : El → Value} {W : World} (h : VG L md mf S k g W) {p : Option Addr} {l : List Sq.O} (hp : Row opE L p l) (h1 : ∀ o, L.cell? ⟨md, o, none⟩ = none) (h2 : ∀ o, L.cell? ⟨mf, o, none⟩ = none) : Row opE W p l := by
  refine ⟨hp.nil', fun hn => ?_⟩
  obtain ⟨b, off, rfl, hlt, hc⟩ := hp.at' hn
  have h0 : 0 < l.length := List.length_pos_iff.2 hn
  have hb0 := hc 0 h0 0 _ rfl
  have n1 : b ≠ md := fun e => by rw [e, h1] at hb0; cases hb0
  have n2 : b ≠ mf := fun e => by rw [e, h2] at hb0; cases hb0
  refine ⟨b, off, rfl, Nat.lt_of_lt_of_le hlt h.st.size, fun i hi j u hu => ?_⟩
  rw [← hc i hi j u hu]
  simp only [World.cell?, h.same b hlt n1 n2]
theorem VG.cell {L : World} {md mf : Nat} {S : List Sq.O} {k : Nat} {g : El → Value} {W : World} (h : VG L md mf S k g W) {b o : Nat} {v : Value} (hb : L.cell? ⟨b, o, none⟩ = some v) (h1 : b ≠ md) (h2 : b ≠ mf) : W.cell? ⟨b, o, none⟩ = some v := by
  rw [← hb]
  simp only [World.cell?, h.same b (cell_block_lt hb) h1 h2]
theorem gby_below {a b c : World} {row : Option Nat} (h : a.grownBy b row) (hb : Below b.heap.size b c) : a.grownBy c row :=
  ⟨hb.os.trans h.os, hb.tape.trans h.tape, hb.output.trans h.output, Nat.le_trans h.size hb.size, fun i hi hne => (hb.block i (Nat.lt_of_lt_of_le hi h.size)).trans (h.block i hi hne)⟩
theorem keeps_below {W W' : World} (h : Below W.heap.size W W') : KeepsOthers W W' := ⟨h.size, fun j _ hj _ => (h.block j (Array.getElem?_eq_some_iff.1 hj).1).trans hj⟩
end Go.Proofs.Ytidncnhhjfdifaa
