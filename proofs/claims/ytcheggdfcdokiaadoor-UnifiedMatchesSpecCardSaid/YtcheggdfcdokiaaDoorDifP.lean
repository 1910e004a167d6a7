
/-
  Patches in memory: to read; and while they are built.
-/
import Derived.Test.YtcheggdfcdokiaaDoorDifA
import Derived.OneCell
import Derived.Laws.OwnMore
import Derived.OwnWalk
import Derived.Deep.AppendLies
namespace Go.Proofs.YtcheggdfcdokiaaDoor
open Go.RowKit
set_option maxRecDepth 4000

/-- a slice's three parts -/
abbrev Sv := Option Addr × Nat × Nat
def sv (s : Sv) : Value := .slice s.1 s.2.1 s.2.2
/-- s leads to the strings l -/
structure Rd (w : World) (s : Sv) (l : List ByteArray) : Prop where
  sts : Sts w s.1 l
  len : s.2.1 = l.length
  cap0 : s.1 = none → s.2.2 = 0
  cap : l.length ≤ s.2.2
theorem Rd.mono {w w' : World} {s : Sv} {l : List ByteArray} (h : Rd w s l) (hb : Below w.heap.size w w') : Rd w' s l := ⟨h.sts.mono hb, h.len, h.cap0, h.cap⟩
/-- p leads to the hunks hs -/
structure Ptc (w : World) (p : Option Addr) (hs : List (Dif.Hk ByteArray)) : Prop where
  nil' : p = none → hs = []
  at' : hs ≠ [] → ∃ b off, p = some ⟨b, off, none⟩ ∧ b < w.heap.size ∧ ∀ i (hi : i < hs.length), ∃ o n : Sv, w.cell? ⟨b, off + i * 3, none⟩ = some (.int .i64 hs[i].at') ∧
    w.cell? ⟨b, off + i * 3 + 1, none⟩ = some (sv o) ∧ w.cell? ⟨b, off + i * 3 + 2, none⟩ = some (sv n) ∧ Rd w o hs[i].old ∧ Rd w n hs[i].new
theorem Ptc.mono {w w' : World} {p : Option Addr} {hs : List (Dif.Hk ByteArray)} (h : Ptc w p hs) (hb : Below w.heap.size w w') : Ptc w' p hs := by
  refine ⟨h.nil', fun hn => ?_⟩
  obtain ⟨b, off, rfl, hlt, hc⟩ := h.at' hn
  refine ⟨b, off, rfl, Nat.lt_of_lt_of_le hlt hb.size, fun i hi => ?_⟩
  obtain ⟨o, n, h1, h2, h3, h4, h5⟩ := hc i hi
  exact ⟨o, n, by rw [hb.cell (p := ⟨b, _, none⟩) hlt, h1], by rw [hb.cell (p := ⟨b, _, none⟩) hlt, h2], by rw [hb.cell (p := ⟨b, _, none⟩) hlt, h3], h4.mono hb, h5.mono hb⟩

/-- a string, a hunk: as elements -/
def strE : Enc ByteArray where
  ty := 9
  sl := 22
  size := 1
  bytes := 16
  z := .string ByteArray.empty
  enc s := [.string s]
  len _ := rfl
  one _ u h := by rw [List.mem_singleton.1 h]; rfl
  pos := by decide
  zs := rfl
  und := Tryd.underlying22
  inf := by kernel_rfl
def hkE : Enc (Int × Sv × Sv) where
  ty := 46
  sl := 23
  size := 3
  bytes := 56
  z := .agg #[.int .i64 0, .slice none 0 0, .slice none 0 0]
  enc h := [.int .i64 h.1, sv h.2.1, sv h.2.2]
  len _ := rfl
  one _ u h := by
    rcases List.mem_cons.1 h with rfl | h
    · rfl
    rcases List.mem_cons.1 h with rfl | h
    · rfl
    · rw [List.mem_singleton.1 h]; rfl
  pos := by decide
  zs := rfl
  und := Tryd.underlying23
  inf := by kernel_rfl
theorem Row.sts {w : World} {p : Option Addr} {l : List ByteArray} (h : Row strE w p l) (hs : ∀ x ∈ l, x.size ≤ 140737488351232) (hl : l.length ≤ 281474976710656) : Sts w p l := by
  refine ⟨hs, hl, h.nil', fun hn => ?_⟩
  obtain ⟨b, off, rfl, hlt, hc⟩ := h.at' hn
  refine ⟨b, off, rfl, hlt, fun i hi => ?_⟩
  have := hc i hi 0 (.string l[i]) rfl
  simp only [strE, Nat.mul_one, Nat.add_zero] at this
  rw [this]
  simp [List.getD_eq_getElem?_getD, hi]
theorem grow_trans {w w1 w2 : World} {row : Option Nat} (h1 : w.grownBy w1 none) (h2 : w1.grownBy w2 row) : w.grownBy w2 row :=
  ⟨h2.os.trans h1.os, h2.tape.trans h1.tape, h2.output.trans h1.output, Nat.le_trans h1.size h2.size, fun k hk hne => by rw [h2.block k (Nat.lt_of_lt_of_le hk h1.size) hne, h1.block k hk (by simp)]⟩
/-- strings are still there when their block is -/
theorem Sts.kept {w w' : World} {p : Option Addr} {l : List ByteArray} (h : Sts w p l) (hz : w.heap.size ≤ w'.heap.size) (hb : ∀ a, p = some a → w'.heap[a.block]? = w.heap[a.block]?) : Sts w' p l := by
  refine ⟨h.small, h.len, h.nil', fun hn => ?_⟩
  obtain ⟨b, off, rfl, hlt, hc⟩ := h.at' hn
  refine ⟨b, off, rfl, Nat.lt_of_lt_of_le hlt hz, fun i hi => ?_⟩
  rw [← hc i hi]
  unfold World.cell?
  rw [hb _ rfl]

/-- a hunk and where its rows lie -/
abbrev Q := Dif.Hk ByteArray × Sv × Sv
def Q.raw (q : Q) : Int × Sv × Sv := (q.1.at', q.2.1, q.2.2)
/-- a hunk that is done: it can be read, and none of its rows lies in the blocks that are still written -/
structure Qok (base : Nat) (w : World) (bad : Nat → Prop) (q : Q) : Prop where
  o : Rd w q.2.1 q.1.old
  n : Rd w q.2.2 q.1.new
  ob : ∀ a, q.2.1.1 = some a → base ≤ a.block ∧ a.block < w.heap.size ∧ ¬ bad a.block
  nb : ∀ a, q.2.2.1 = some a → base ≤ a.block ∧ a.block < w.heap.size ∧ ¬ bad a.block
theorem Qok.next {base : Nat} {w w' : World} {bad bad' : Nat → Prop} {q : Q} (h : Qok base w bad q) (hz : w.heap.size ≤ w'.heap.size) (hb : ∀ k, k < w.heap.size → base ≤ k → ¬ bad k → w'.heap[k]? = w.heap[k]?) (hx : ∀ k, k < w.heap.size → base ≤ k → bad' k → bad k) : Qok base w' bad' q :=
  ⟨⟨h.o.sts.kept hz fun a ha => hb _ (h.ob a ha).2.1 (h.ob a ha).1 (h.ob a ha).2.2, h.o.len, h.o.cap0, h.o.cap⟩, ⟨h.n.sts.kept hz fun a ha => hb _ (h.nb a ha).2.1 (h.nb a ha).1 (h.nb a ha).2.2, h.n.len, h.n.cap0, h.n.cap⟩,
   fun a ha => ⟨(h.ob a ha).1, Nat.lt_of_lt_of_le (h.ob a ha).2.1 hz, fun hb' => (h.ob a ha).2.2 (hx _ (h.ob a ha).2.1 (h.ob a ha).1 hb')⟩, fun a ha => ⟨(h.nb a ha).1, Nat.lt_of_lt_of_le (h.nb a ha).2.1 hz, fun hb' => (h.nb a ha).2.2 (hx _ (h.nb a ha).2.1 (h.nb a ha).1 hb')⟩⟩

/-- the patch while no hunk is open -/
structure PBs (base pg k : Nat) (w : World) (v : Value) (qs : List Q) : Prop where
  pc : w.cell? ⟨pg, 0, none⟩ = some v
  pf : w.frozen? ⟨pg, 0, none⟩ = false
  pl : pg < base
  bl : base ≤ w.heap.size
  own : OwnE hkE base w v (qs.map Q.raw)
  cnt : qs.length ≤ k
  ok : ∀ q ∈ qs, Qok base w (fun b => v.ownBlock = some b) q
/-- the patch while its last hunk is open -/
structure PBo (base pg k : Nat) (w : World) (v : Value) (qs : List Q) (c : Q) : Prop where
  pc : w.cell? ⟨pg, 0, none⟩ = some v
  pf : w.frozen? ⟨pg, 0, none⟩ = false
  pl : pg < base
  bl : base ≤ w.heap.size
  own : OwnE hkE base w v ((qs ++ [c]).map Q.raw)
  cnt : qs.length + 1 ≤ k
  ok : ∀ q ∈ qs, Qok base w (fun b => v.ownBlock = some b ∨ (sv c.2.1).ownBlock = some b ∨ (sv c.2.2).ownBlock = some b) q
  o : OwnE strE base w (sv c.2.1) c.1.old
  n : OwnE strE base w (sv c.2.2) c.1.new
  os : (∀ x ∈ c.1.old, x.size ≤ 140737488351232) ∧ c.1.old.length ≤ k
  ns : (∀ x ∈ c.1.new, x.size ≤ 140737488351232) ∧ c.1.new.length ≤ k
  on : ∀ b, (sv c.2.1).ownBlock = some b → (sv c.2.2).ownBlock ≠ some b
  vo : ∀ b, v.ownBlock = some b → (sv c.2.1).ownBlock ≠ some b ∧ (sv c.2.2).ownBlock ≠ some b
theorem rd_of_own {base : Nat} {w : World} {s : Sv} {l : List ByteArray} (h : OwnE strE base w (sv s) l) (hs : ∀ x ∈ l, x.size ≤ 140737488351232) (hl : l.length ≤ 281474976710656) : Rd w s l := by
  obtain ⟨p, cap, e, hr, hc, hn, hb⟩ := row_of_own h
  obtain ⟨s1, s2, s3⟩ := s
  simp only [sv, Value.slice.injEq] at e
  obtain ⟨rfl, rfl, rfl⟩ := e
  exact ⟨hr.sts hs hl, rfl, hc, hn⟩
theorem own_block {α : Type} {e : Enc α} {base : Nat} {w : World} {v : Value} {l : List α} (h : OwnE e base w v l) (b : Nat) (hb : v.ownBlock = some b) : base ≤ b ∧ b < w.heap.size := World.ownsRow.lt h b hb
theorem sv_block (s : Sv) (a : Addr) (h : s.1 = some a) : (sv s).ownBlock = some a.block := by
  obtain ⟨s1, s2, s3⟩ := s
  simp only at h; subst h; rfl
/-- a kept line: the open hunk is done -/
theorem PBo.shut {base pg k : Nat} {w : World} {v : Value} {qs : List Q} {c : Q} (h : PBo base pg k w v qs c) (hk : k ≤ 281474976710656) : PBs base pg k w v (qs ++ [c]) := by
  refine ⟨h.pc, h.pf, h.pl, h.bl, h.own, by rw [List.length_append]; exact h.cnt, fun q hq => ?_⟩
  rcases List.mem_append.1 hq with hq | hq
  · exact (h.ok q hq).next (Nat.le_refl _) (fun _ _ _ _ => rfl) (fun b _ _ hb => .inl hb)
  · rw [List.mem_singleton.1 hq]
    refine ⟨rd_of_own h.o h.os.1 (by have := h.os.2; omega), rd_of_own h.n h.ns.1 (by have := h.ns.2; omega), fun a ha => ?_, fun a ha => ?_⟩
    · have := own_block h.o a.block (sv_block _ a ha)
      exact ⟨this.1, this.2, fun hb => (h.vo _ hb).1 (sv_block _ a ha)⟩
    · have := own_block h.n a.block (sv_block _ a ha)
      exact ⟨this.1, this.2, fun hb => (h.vo _ hb).2 (sv_block _ a ha)⟩
theorem PBs.next {base pg k k' : Nat} {w : World} {v : Value} {qs : List Q} (h : PBs base pg k w v qs) (hk : k ≤ k') : PBs base pg k' w v qs :=
  ⟨h.pc, h.pf, h.pl, h.bl, h.own, by have := h.cnt; omega, h.ok⟩
theorem PBs.start (base pg : Nat) (w : World) (hc : w.cell? ⟨pg, 0, none⟩ = some (.slice none 0 0)) (hf : w.frozen? ⟨pg, 0, none⟩ = false) (hp : pg < base) (hb : base ≤ w.heap.size) : PBs base pg 0 w (.slice none 0 0) [] :=
  ⟨hc, hf, hp, hb, ownE_nil _ _ _, Nat.le_refl _, fun q hq => by cases hq⟩
/-- the result, to read -/
theorem PBs.ptc {base pg k : Nat} {w : World} {v : Value} {qs : List Q} (h : PBs base pg k w v qs) : ∃ p cap, v = .slice p (qs.map (·.1)).length cap ∧ Ptc w p (qs.map (·.1)) ∧ (p = none → cap = 0) ∧ qs.length ≤ cap := by
  obtain ⟨p, cap, e, hr, hc, hn, hb⟩ := row_of_own h.own
  rw [List.length_map] at e hn
  refine ⟨p, cap, by rw [List.length_map]; exact e, ⟨fun hp => by have := hr.nil' hp; simpa using this, fun hne => ?_⟩, hc, hn⟩
  obtain ⟨b, off, h1, h2, h3⟩ := hr.at' (by simpa using hne)
  refine ⟨b, off, h1, h2, fun i hi => ?_⟩
  have hi' : i < qs.length := by simpa using hi
  have h4 := h3 i (by simpa using hi')
  have hq := h.ok _ (List.getElem_mem hi')
  simp only [List.getElem_map] at h4 ⊢
  refine ⟨(qs[i]).2.1, (qs[i]).2.2, ?_, ?_, ?_, hq.o, hq.n⟩
  · exact h4 0 _ rfl
  · exact h4 1 _ rfl
  · exact h4 2 _ rfl
/-- .. in every world that is as this one above base -/
theorem PBs.ptcW {base pg k : Nat} {w : World} {v : Value} {qs : List Q} (h : PBs base pg k w v qs) (W : World) (hz : w.heap.size ≤ W.heap.size) (hb : ∀ k, base ≤ k → k < w.heap.size → W.heap[k]? = w.heap[k]?) : ∃ p cap, v = .slice p (qs.map (·.1)).length cap ∧ Ptc W p (qs.map (·.1)) ∧ (p = none → cap = 0) ∧ qs.length ≤ cap := by
  have own : OwnE hkE base W v (qs.map Q.raw) := by
    obtain ⟨h1, h2 | ⟨g, cap, cur, e, hg, hc, r⟩⟩ := h.own
    · exact ⟨h1, .inl h2⟩
    · exact ⟨h1, .inr ⟨g, cap, cur, e, hg, by rw [hb g hg (Array.getElem?_eq_some_iff.1 hc).1]; exact hc, r⟩⟩
  have ok : ∀ q ∈ qs, Qok base W (fun _ => False) q := fun q hq => ((h.ok q hq).next (bad' := fun _ => False) (Nat.le_refl _) (fun _ _ _ _ => rfl) (fun _ _ _ h => h.elim)).next hz (fun b h1 h2 _ => hb b h2 h1) (fun _ _ _ h => h)
  obtain ⟨p, cap, e, hr, hc, hn, hb⟩ := row_of_own own
  rw [List.length_map] at e hn
  refine ⟨p, cap, by rw [List.length_map]; exact e, ⟨fun hp => by have := hr.nil' hp; simpa using this, fun hne => ?_⟩, hc, hn⟩
  obtain ⟨b, off, h1, h2, h3⟩ := hr.at' (by simpa using hne)
  refine ⟨b, off, h1, h2, fun i hi => ?_⟩
  have hi' : i < qs.length := by simpa using hi
  have h4 := h3 i (by simpa using hi')
  have hq := ok _ (List.getElem_mem hi')
  simp only [List.getElem_map] at h4 ⊢
  refine ⟨(qs[i]).2.1, (qs[i]).2.2, ?_, ?_, ?_, hq.o, hq.n⟩
  · exact h4 0 _ rfl
  · exact h4 1 _ rfl
  · exact h4 2 _ rfl
/-- a hunk is opened: its element was appended, the patch's cell was written -/
theorem PBs.open {base pg k : Nat} {w w2 : World} {v v' : Value} {qs : List Q} (h : PBs base pg k w v qs) (at' : Int) (hG : w.grownBy w2 v.ownBlock) (own : OwnE hkE base w2 v' (qs.map Q.raw ++ [(at', (none, 0, 0), (none, 0, 0))]))
    (H : Nat) (hsW : w.heap.size ≤ H) (hat : v'.ownBlock = v.ownBlock ∨ v'.ownBlock = some H) : PBo base pg (k + 1) (w2.setCell ⟨pg, 0, none⟩ v') v' qs (⟨at', [], []⟩, (none, 0, 0), (none, 0, 0)) := by
  have hv : v.ownBlock ≠ some pg := fun e => by have := own_block h.own _ e; have := h.pl; omega
  have hc2 : w2.cell? ⟨pg, 0, none⟩ = some v := hG.cell h.pc (Ne.symm hv)
  have hpl := h.pl
  have hbl := h.bl
  have hsz := hG.size
  refine ⟨World.cell?_setCell_same _ _ _ hc2, ?_, h.pl, by rw [World.size_setCell]; omega, ?_, by have := h.cnt; omega, fun q hq => ?_, ownE_nil _ _ _, ownE_nil _ _ _, ⟨by simp, by simp⟩, ⟨by simp, by simp⟩, (fun b hb => by cases hb), fun b _ => ⟨(fun e => by cases e), (fun e => by cases e)⟩⟩
  · rw [World.frozen?_setCell, hG.frozen_far ⟨pg, 0, none⟩ (by dsimp only; omega) (Ne.symm hv)]; exact h.pf
  · rw [List.map_append]
    exact ownsRow_setCell_below own (by exact h.pl) _
  · have hq' := h.ok q hq
    refine hq'.next (by rw [World.size_setCell]; exact hsz) (fun b hb hbb hbad => ?_) (fun b hb hbb hbad => ?_)
    · rw [Below.heap_setCell _ _ _ _ (by dsimp only; omega)]
      exact hG.block b hb (fun e' => hbad e'.symm)
    · rcases hbad with hbad | hbad | hbad
      · rcases hat with e | e
        · rw [e] at hbad; exact hbad
        · rw [e] at hbad; cases hbad; omega
      · cases hbad
      · cases hbad
/-- a line is appended to the open hunk's deleted ones: the row grew, its cell in the hunk was written -/
theorem PBo.old {base pg k K : Nat} {w w2 : World} {g cap : Nat} {qs : List Q} {c : Q} {o' : Sv} (h : PBo base pg k w (.slice (some ⟨g, 0, none⟩) (qs.length + 1) cap) qs c) (k1 : c.1.old.length + 1 ≤ K) (k2 : c.1.new.length ≤ K) (k3 : qs.length + 1 ≤ K) (x : ByteArray) (hx : x.size ≤ 140737488351232) (hG : w.grownBy w2 (sv c.2.1).ownBlock)
    (own : OwnE strE base w2 (sv o') (c.1.old ++ [x])) (H : Nat) (hsW : w.heap.size ≤ H) (hat : (sv o').ownBlock = (sv c.2.1).ownBlock ∨ (sv o').ownBlock = some H) :
    PBo base pg K (w2.setCell ⟨g, qs.length * 3 + 1, none⟩ (sv o')) (.slice (some ⟨g, 0, none⟩) (qs.length + 1) cap) qs ({ c.1 with old := c.1.old ++ [x] }, o', c.2.2) := by
  have hpl := h.pl
  have hbl := h.bl
  have hsz := hG.size
  have hgb := own_block h.own g rfl
  have hvo := h.vo g rfl
  have hpo : (sv c.2.1).ownBlock ≠ some pg := fun e => by have := own_block h.o _ e; omega
  have fresh : ∀ b, b < w.heap.size → (sv o').ownBlock = some b → (sv c.2.1).ownBlock = some b := fun b hb e => by
    rcases hat with e' | e'
    · rw [← e', e]
    · rw [e'] at e; cases e; omega
  have hgo : (sv o').ownBlock ≠ some g := fun e => hvo.1 (fresh g hgb.2 e)
  have hc2 : w2.cell? ⟨pg, 0, none⟩ = some (.slice (some ⟨g, 0, none⟩) (qs.length + 1) cap) := hG.cell h.pc (Ne.symm hpo)
  have ov : OwnE hkE base w2 (.slice (some ⟨g, 0, none⟩) (qs.length + 1) cap) ((qs ++ [c]).map Q.raw) := h.own.kept hG (.inr (Ne.symm hvo.1))
  have hl : ((qs ++ [c]).map Q.raw).length = qs.length + 1 := by simp
  refine ⟨?_, ?_, h.pl, by rw [World.size_setCell]; omega, ?_, k3, fun q hq => ?_, ?_, ?_, ⟨snoc_sizes h.os.1 hx, by rw [List.length_append]; exact k1⟩, ⟨h.ns.1, k2⟩, fun b hb hb' => ?_, fun b hb => ?_⟩
  · rw [World.cell?_setCell_other (h := by intro e; cases e <;> omega)]; exact hc2
  · rw [World.frozen?_setCell, hG.frozen_far ⟨pg, 0, none⟩ (by dsimp only; omega) (Ne.symm hpo)]; exact h.pf
  · unfold OwnE at ov ⊢
    rw [hl] at ov
    have hs := (ov.stored (qs.length * 3 + 1) (sv o')).1
    have e : (((qs ++ [c]).map Q.raw).flatMap hkE.enc).set (qs.length * 3 + 1) (sv o') = ((qs ++ [(({ c.1 with old := c.1.old ++ [x] }, o', c.2.2) : Q)]).map Q.raw).flatMap hkE.enc := by
      rw [List.map_append, List.map_append, List.flatMap_append, List.flatMap_append]
      have hfl : ((qs.map Q.raw).flatMap hkE.enc).length = qs.length * 3 := by rw [flat_len, List.length_map]; rfl
      rw [List.set_append_right _ _ (by rw [hfl]; omega), hfl, show qs.length * 3 + 1 - qs.length * 3 = 1 by omega]
      rfl
    rw [e] at hs
    simpa using hs
  · refine (h.ok q hq).next (by rw [World.size_setCell]; exact hsz) (fun b hb hbb hbad => ?_) (fun b hb hbb hbad => ?_)
    · rw [Below.heap_setCell _ _ _ _ (by dsimp only; intro e; exact hbad (.inl (by rw [e]; rfl)))]
      exact hG.block b hb (fun e' => hbad (.inr (.inl e'.symm)))
    · rcases hbad with hbad | hbad | hbad
      · exact .inl hbad
      · exact .inr (.inl (fresh b hb hbad))
      · exact .inr (.inr hbad)
  · exact ownsRow_setCell_other own (by exact hgo) _
  · have := h.n.kept hG (row := (sv c.2.1).ownBlock) (by
      cases e : (sv c.2.2).ownBlock with
      | none => exact .inl rfl
      | some b => right; intro e'; exact h.on b e'.symm e)
    exact ownsRow_setCell_other this (by exact hvo.2) _
  · have := own_block h.n b hb'
    exact h.on b (fresh b this.2 hb) hb'
  · cases hb
    exact ⟨hgo, hvo.2⟩
/-- .. to its inserted ones -/
theorem PBo.new {base pg k K : Nat} {w w2 : World} {g cap : Nat} {qs : List Q} {c : Q} {n' : Sv} (h : PBo base pg k w (.slice (some ⟨g, 0, none⟩) (qs.length + 1) cap) qs c) (k1 : c.1.new.length + 1 ≤ K) (k2 : c.1.old.length ≤ K) (k3 : qs.length + 1 ≤ K) (x : ByteArray) (hx : x.size ≤ 140737488351232) (hG : w.grownBy w2 (sv c.2.2).ownBlock)
    (own : OwnE strE base w2 (sv n') (c.1.new ++ [x])) (H : Nat) (hsW : w.heap.size ≤ H) (hat : (sv n').ownBlock = (sv c.2.2).ownBlock ∨ (sv n').ownBlock = some H) :
    PBo base pg K (w2.setCell ⟨g, qs.length * 3 + 2, none⟩ (sv n')) (.slice (some ⟨g, 0, none⟩) (qs.length + 1) cap) qs ({ c.1 with new := c.1.new ++ [x] }, c.2.1, n') := by
  have hpl := h.pl
  have hbl := h.bl
  have hsz := hG.size
  have hgb := own_block h.own g rfl
  have hvo := h.vo g rfl
  have hpo : (sv c.2.2).ownBlock ≠ some pg := fun e => by have := own_block h.n _ e; omega
  have fresh : ∀ b, b < w.heap.size → (sv n').ownBlock = some b → (sv c.2.2).ownBlock = some b := fun b hb e => by
    rcases hat with e' | e'
    · rw [← e', e]
    · rw [e'] at e; cases e; omega
  have hgo : (sv n').ownBlock ≠ some g := fun e => hvo.2 (fresh g hgb.2 e)
  have hc2 : w2.cell? ⟨pg, 0, none⟩ = some (.slice (some ⟨g, 0, none⟩) (qs.length + 1) cap) := hG.cell h.pc (Ne.symm hpo)
  have ov : OwnE hkE base w2 (.slice (some ⟨g, 0, none⟩) (qs.length + 1) cap) ((qs ++ [c]).map Q.raw) := h.own.kept hG (.inr (Ne.symm hvo.2))
  have hl : ((qs ++ [c]).map Q.raw).length = qs.length + 1 := by simp
  refine ⟨?_, ?_, h.pl, by rw [World.size_setCell]; omega, ?_, k3, fun q hq => ?_, ?_, ?_, ⟨h.os.1, k2⟩, ⟨snoc_sizes h.ns.1 hx, by rw [List.length_append]; exact k1⟩, fun b hb hb' => ?_, fun b hb => ?_⟩
  · rw [World.cell?_setCell_other (h := by intro e; cases e <;> omega)]; exact hc2
  · rw [World.frozen?_setCell, hG.frozen_far ⟨pg, 0, none⟩ (by dsimp only; omega) (Ne.symm hpo)]; exact h.pf
  · unfold OwnE at ov ⊢
    rw [hl] at ov
    have hs := (ov.stored (qs.length * 3 + 2) (sv n')).1
    have e : (((qs ++ [c]).map Q.raw).flatMap hkE.enc).set (qs.length * 3 + 2) (sv n') = ((qs ++ [(({ c.1 with new := c.1.new ++ [x] }, c.2.1, n') : Q)]).map Q.raw).flatMap hkE.enc := by
      rw [List.map_append, List.map_append, List.flatMap_append, List.flatMap_append]
      have hfl : ((qs.map Q.raw).flatMap hkE.enc).length = qs.length * 3 := by rw [flat_len, List.length_map]; rfl
      rw [List.set_append_right _ _ (by rw [hfl]; omega), hfl, show qs.length * 3 + 2 - qs.length * 3 = 2 by omega]
      rfl
    rw [e] at hs
    simpa using hs
  · refine (h.ok q hq).next (by rw [World.size_setCell]; exact hsz) (fun b hb hbb hbad => ?_) (fun b hb hbb hbad => ?_)
    · rw [Below.heap_setCell _ _ _ _ (by dsimp only; intro e; exact hbad (.inl (by rw [e]; rfl)))]
      exact hG.block b hb (fun e' => hbad (.inr (.inr e'.symm)))
    · rcases hbad with hbad | hbad | hbad
      · exact .inl hbad
      · exact .inr (.inl hbad)
      · exact .inr (.inr (fresh b hb hbad))
  · have := h.o.kept hG (row := (sv c.2.2).ownBlock) (by
      cases e : (sv c.2.1).ownBlock with
      | none => exact .inl rfl
      | some b => right; intro e'; exact h.on b e e'.symm)
    exact ownsRow_setCell_other this (by exact hvo.1) _
  · exact ownsRow_setCell_other own (by exact hgo) _
  · have := own_block h.o b hb
    exact h.on b hb (fresh b this.2 hb')
  · cases hb
    exact ⟨hvo.1, hgo⟩
/-- the open hunk's cells -/
theorem PBo.cells {base pg k : Nat} {w : World} {v : Value} {qs : List Q} {c : Q} (h : PBo base pg k w v qs c) :
    ∃ g cap, v = .slice (some ⟨g, 0, none⟩) (qs.length + 1) cap ∧ w.cell? ⟨g, qs.length * 3 + 1, none⟩ = some (sv c.2.1) ∧ w.cell? ⟨g, qs.length * 3 + 2, none⟩ = some (sv c.2.2) ∧
      (∀ i, w.frozen? ⟨g, i, none⟩ = false) ∧ g < w.heap.size ∧ base ≤ g ∧ (sv c.2.1).ownBlock ≠ some g ∧ (sv c.2.2).ownBlock ≠ some g := by
  obtain ⟨hlen, ⟨rfl, h0⟩ | ⟨g, cap, cur, rfl, hb, hg, hn, hm, hsz, htk⟩⟩ := h.own
  · simp at h0
  · have hl : ((qs ++ [c]).map Q.raw).length = qs.length + 1 := by simp
    obtain ⟨p, cap', e, hr, -⟩ := row_of_own h.own
    rw [hl] at e ⊢
    cases e
    obtain ⟨b, off, hp, hbz, hcell⟩ := hr.cell (i := qs.length) (by rw [hl]; omega)
    cases hp
    have he : ((qs ++ [c]).map Q.raw)[qs.length]'(by rw [hl]; omega) = c.raw := by simp
    rw [he] at hcell
    have hvo := h.vo g rfl
    refine ⟨g, cap, rfl, ?_, ?_, fun i => ?_, hbz, hb, hvo.1, hvo.2⟩
    · have := hcell 1 _ rfl; simpa [hkE, Q.raw] using this
    · have := hcell 2 _ rfl; simpa [hkE, Q.raw] using this
    · exact frozen_of_row w g i cur _ hg
end Go.Proofs.YtcheggdfcdokiaaDoor
