/-
  textpatch.changesOf: its closure finish.
  The patch while its open hunk lies in a cell of its own (changesOf).
  'append(v, x...)' for a row of strings of the call's own, with the place of the new row.
-/
import Derived.Test.YtbgnckbgpiajjaaTqF
import Derived.Test.YtbgnckbgpiajjaaCpM
namespace Go.Proofs.Ytbgnckbgpiajjaa
open Go.RowKit
set_option maxRecDepth 4000

/-- what finish leaves: the open hunk c is pushed if it changes something -/
def FinPost (base pg : Nat) (w : World) (v : Value) (qs : List Q) (c : Tp.H) (e : Ending) (w2 : World) : Prop :=
  e = .returned (.tuple #[]) ∧ ∃ v2 qs', PBs base pg qs'.length w2 v2 qs' ∧ qs'.map (·.1) = qs.map (·.1) ++ (if 0 < c.old.length + c.new.length then [c] else []) ∧ Below pg w w2 ∧
    (∀ k, k < w.heap.size → k ≠ pg → v.ownBlock ≠ some k → w2.heap[k]? = w.heap[k]?) ∧ (∀ b, v2.ownBlock = some b → v.ownBlock = some b ∨ w.heap.size ≤ b)

set_option maxRecDepth 100000 in
set_option maxHeartbeats 4000000 in
theorem finish_any (pg hg C : Nat) (h : Tp.H) (o n : Sv) (v : Value) (qs : List Q) (w : World) (hV : PBs C pg qs.length w v qs) (hH : Hu w hg h.at' (sv o) (sv n)) (hgC : hg < C) (hq : Qok C w (fun b => v.ownBlock = some b) (h, o, n))
    (lo : h.old.length ≤ 10000000) (ln : h.new.length ≤ 10000000) (lq : qs.length ≤ 10000000) :
    Calls Try.prog 102 #[.pointer (some ⟨hg, 0, none⟩), .pointer (some ⟨pg, 0, none⟩)] w (FinPost C pg w v qs h) := by
  obtain ⟨o1, o2, o3⟩ := o
  obtain ⟨n1, n2, n3⟩ := n
  have e1 := hq.o.len
  have e2 := hq.n.len
  dsimp only at e1 e2
  subst e1 e2
  obtain ⟨x0, x1, x2, x3⟩ := hH
  simp only [sv] at x1 x2
  have VV := Lib.hid hV
  have QQ := Lib.hid hq
  have hpl := hV.pl
  have hbl := hV.bl
  have hvp : v.ownBlock ≠ some pg := fun e => by have := own_block hV.own _ e; omega
  have hvg : v.ownBlock ≠ some hg := fun e => by have := own_block hV.own _ e; omega
  clear hV hq
  go_enter Try.func102, Try.ntmps102
  go_wp2_with fail
  refine (changed_lines h.at' o1 n1 h.old.length o3 h.new.length n3 w (by omega) (by omega)).mono ?_
  rintro e w1 ⟨rfl, hb1⟩
  have V1 := Lib.hid (VV.out.up hb1)
  have y0 := (hb1.cell (p := ⟨hg, 0, none⟩) x3).trans x0
  have y1 := (hb1.cell (p := ⟨hg, 1, none⟩) x3).trans x1
  have y2 := (hb1.cell (p := ⟨hg, 2, none⟩) x3).trans x2
  have HB1 := Lib.hid hb1
  have hz1 := hb1.size
  have pc := V1.out.pc
  have pf := V1.out.pf
  clear hb1 x0 x1 x2
  by_cases hch : 0 < h.old.length + h.new.length
  · have g : decide ((0 : Int) < (h.old.length : Int) + (h.new.length : Int)) = true := by simp; omega
    go_wp2_with (at_builtin; refine wp_appE_at hkE rfl (.tmp 6) (.tmp 8) rfl C v (qs.map Q.raw) (h.at', (o1, h.old.length, o3), (n1, h.new.length, n3)) _ _ rfl (V1.out.own.alloc _) rfl (hunk_one _ _ (o1, h.old.length, o3) (n1, h.new.length, n3) _) (by simp [hkE]; omega) (by simp; omega) (by simp; omega) ?_; intro v2 w2 own2 gr2 hat2
                 obtain ⟨gg, cc, rfl⟩ := own_succ (m := qs.length) own2 (by simp)
                 have G2 : World.grownBy w1 w2 v.ownBlock := by refine grow_trans ?_ gr2; exact ⟨rfl, rfl, rfl, by simp, fun k hk _ => Below.heap_alloc _ _ _ hk⟩
                 have z1 := G2.cell pc (Ne.symm hvp)
                 have z2 : w2.frozen? ⟨pg, 0, none⟩ = false := by rw [G2.frozen_far ⟨pg, 0, none⟩ (by dsimp only; omega) (Ne.symm hvp), pf])
    have Q1 : Qok C w1 (fun b => v.ownBlock = some b) (h, (o1, h.old.length, o3), (n1, h.new.length, n3)) := QQ.out.next hz1 (fun k hk _ _ => HB1.out.block k hk) (fun _ _ _ hb => hb)
    have P := Lib.hid (V1.out.push _ Q1 G2 own2 _ (by simp) hat2)
    have SZ := Lib.hid G2.size
    have HAT := Lib.hid hat2
    have B : Hid (∀ k, k < w.heap.size → k ≠ pg → v.ownBlock ≠ some k → (w2.setCell ⟨pg, 0, none⟩ (.slice (some ⟨gg, 0, none⟩) (qs.length + 1) cc)).heap[k]? = w.heap[k]?) := Lib.hid (fun k hk hne hv => by
      rw [Below.heap_setCell _ _ _ _ (by exact hne), G2.block k (by omega) (fun e => hv e.symm), HB1.out.block k hk])
    have OWN := Lib.hid (fun b hb => own_block V1.out.own b hb)
    have BG : Hid (Below pg w (w2.setCell ⟨pg, 0, none⟩ (.slice (some ⟨gg, 0, none⟩) (qs.length + 1) cc))) := Lib.hid ⟨G2.os.trans HB1.out.os, G2.tape.trans HB1.out.tape, G2.output.trans HB1.out.output, by rw [World.size_setCell]; have := G2.size; omega, fun k hk => B.out k (by omega) (by omega) (fun e => by have := OWN.out _ e; omega)⟩
    clear own2 gr2 hat2 G2 Q1
    go_wp2_with fail
    go_returns
    refine ⟨rfl, _, qs ++ [(h, (o1, h.old.length, o3), (n1, h.new.length, n3))], by rw [List.length_append]; exact P.out, by rw [List.map_append, if_pos hch]; rfl, BG.out, B.out, fun b hb => ?_⟩
    rcases HAT.out with e | e
    · left; rw [← e, hb]
    · right; rw [e] at hb; cases hb; simp; omega
  · have g : decide ((0 : Int) < (h.old.length : Int) + (h.new.length : Int)) = false := by simp; omega
    go_wp2_with fail
    go_returns
    exact ⟨rfl, v, qs, V1.out, by rw [if_neg hch, List.append_nil], HB1.out.mono (by omega), fun k hk _ _ => HB1.out.block k hk, fun b hb => .inl hb⟩
end Go.Proofs.Ytbgnckbgpiajjaa
namespace Go.Proofs.Ytbgnckbgpiajjaa
open Go.RowKit

structure PBc (base pg hg : Nat) (w : World) (v : Value) (qs : List Q) (c : Q) : Prop where
  pc : w.cell? ⟨pg, 0, none⟩ = some v
  pf : w.frozen? ⟨pg, 0, none⟩ = false
  pl : pg < base
  bl : base ≤ w.heap.size
  hu : Hu w hg c.1.at' (sv c.2.1) (sv c.2.2)
  hf : ∀ k, w.frozen? ⟨hg, k, none⟩ = false
  hl : hg < base
  ne : hg ≠ pg
  own : OwnE hkE base w v (qs.map Q.raw)
  ok : ∀ q ∈ qs, Qok base w (fun b => v.ownBlock = some b ∨ (sv c.2.1).ownBlock = some b ∨ (sv c.2.2).ownBlock = some b) q
  o : OwnE strE base w (sv c.2.1) c.1.old
  n : OwnE strE base w (sv c.2.2) c.1.new
  on : ∀ b, (sv c.2.1).ownBlock = some b → (sv c.2.2).ownBlock ≠ some b
  vo : ∀ b, v.ownBlock = some b → (sv c.2.1).ownBlock ≠ some b ∧ (sv c.2.2).ownBlock ≠ some b
theorem PBc.old {base pg hg : Nat} {w w2 : World} {v : Value} {qs : List Q} {c : Q} {o' : Sv} (h : PBc base pg hg w v qs c) (l : List ByteArray) (hG : w.grownBy w2 (sv c.2.1).ownBlock) (own : OwnE strE base w2 (sv o') (c.1.old ++ l))
    (hat : ∀ b, (sv o').ownBlock = some b → (sv c.2.1).ownBlock = some b ∨ w.heap.size ≤ b) :
    PBc base pg hg (w2.setCell ⟨hg, 1, none⟩ (sv o')) v qs ({ c.1 with old := c.1.old ++ l }, o', c.2.2) := by
  have hpl := h.pl
  have hbl := h.bl
  have hhl := h.hl
  have hne := h.ne
  have hsz := hG.size
  have hpo : (sv c.2.1).ownBlock ≠ some pg := fun e => by have := own_block h.o _ e; omega
  have hho : (sv c.2.1).ownBlock ≠ some hg := fun e => by have := own_block h.o _ e; omega
  have fresh : ∀ b, b < w.heap.size → (sv o').ownBlock = some b → (sv c.2.1).ownBlock = some b := fun b hb e => by
    rcases hat b e with e' | e'
    · exact e'
    · omega
  have hv0 := hG.cell h.hu.c0 (Ne.symm hho)
  have hv1 := hG.cell h.hu.c1 (Ne.symm hho)
  have hv2 := hG.cell h.hu.c2 (Ne.symm hho)
  have hvp := hG.cell h.pc (Ne.symm hpo)
  have hlt : hg < w2.heap.size := by omega
  refine ⟨?_, ?_, h.pl, by rw [World.size_setCell]; omega, ⟨?_, ?_, ?_, by rw [World.size_setCell]; exact hlt⟩, fun k => ?_, h.hl, h.ne, ?_, fun q hq => ?_, ?_, ?_, fun b hb hb' => ?_, fun b hb => ?_⟩
  · rw [World.cell?_setCell_other (h := by intro e; cases e)]; exact hvp
  · rw [World.frozen?_setCell, hG.frozen_far ⟨pg, 0, none⟩ (by dsimp only; omega) (Ne.symm hpo)]; exact h.pf
  · rw [World.cell?_setCell_other (h := by intro e; cases e)]; exact hv0
  · exact World.cell?_setCell_same _ _ _ hv1
  · rw [World.cell?_setCell_other (h := by intro e; cases e)]; exact hv2
  · rw [World.frozen?_setCell, hG.frozen_far ⟨hg, k, none⟩ (by dsimp only; omega) (Ne.symm hho)]; exact h.hf k
  · exact ownsRow_setCell_below (h.own.kept hG (by
      cases hv : v.ownBlock with
      | none => exact .inl rfl
      | some b => exact .inr (fun e => (h.vo b hv).1 e.symm))) (by dsimp only; omega) _
  · refine (h.ok q hq).next (by rw [World.size_setCell]; exact hsz) (fun b hb hbb hbad => ?_) (fun b hb hbb hbad => ?_)
    · rw [Below.heap_setCell _ _ _ _ (by dsimp only; omega)]
      exact hG.block b hb (fun e' => hbad (.inr (.inl e'.symm)))
    · rcases hbad with e | e | e
      · exact .inl e
      · exact .inr (.inl (fresh b hb e))
      · exact .inr (.inr e)
  · exact ownsRow_setCell_below own (by dsimp only; omega) _
  · exact ownsRow_setCell_below (h.n.kept hG (by
      cases hv : (sv c.2.2).ownBlock with
      | none => exact .inl rfl
      | some b => exact .inr (fun e => h.on b e.symm hv))) (by dsimp only; omega) _
  · have := own_block h.n b hb'
    exact h.on b (fresh b this.2 hb) hb'
  · have := own_block h.own b hb
    exact ⟨fun e => (h.vo b hb).1 (fresh b this.2 e), (h.vo b hb).2⟩
theorem PBc.new {base pg hg : Nat} {w w2 : World} {v : Value} {qs : List Q} {c : Q} {n' : Sv} (h : PBc base pg hg w v qs c) (l : List ByteArray) (hG : w.grownBy w2 (sv c.2.2).ownBlock) (own : OwnE strE base w2 (sv n') (c.1.new ++ l))
    (hat : ∀ b, (sv n').ownBlock = some b → (sv c.2.2).ownBlock = some b ∨ w.heap.size ≤ b) :
    PBc base pg hg (w2.setCell ⟨hg, 2, none⟩ (sv n')) v qs ({ c.1 with new := c.1.new ++ l }, c.2.1, n') := by
  have hpl := h.pl
  have hbl := h.bl
  have hhl := h.hl
  have hne := h.ne
  have hsz := hG.size
  have hpo : (sv c.2.2).ownBlock ≠ some pg := fun e => by have := own_block h.n _ e; omega
  have hho : (sv c.2.2).ownBlock ≠ some hg := fun e => by have := own_block h.n _ e; omega
  have fresh : ∀ b, b < w.heap.size → (sv n').ownBlock = some b → (sv c.2.2).ownBlock = some b := fun b hb e => by
    rcases hat b e with e' | e'
    · exact e'
    · omega
  have hv0 := hG.cell h.hu.c0 (Ne.symm hho)
  have hv1 := hG.cell h.hu.c1 (Ne.symm hho)
  have hv2 := hG.cell h.hu.c2 (Ne.symm hho)
  have hvp := hG.cell h.pc (Ne.symm hpo)
  have hlt : hg < w2.heap.size := by omega
  refine ⟨?_, ?_, h.pl, by rw [World.size_setCell]; omega, ⟨?_, ?_, ?_, by rw [World.size_setCell]; exact hlt⟩, fun k => ?_, h.hl, h.ne, ?_, fun q hq => ?_, ?_, ?_, fun b hb hb' => ?_, fun b hb => ?_⟩
  · rw [World.cell?_setCell_other (h := by intro e; cases e)]; exact hvp
  · rw [World.frozen?_setCell, hG.frozen_far ⟨pg, 0, none⟩ (by dsimp only; omega) (Ne.symm hpo)]; exact h.pf
  · rw [World.cell?_setCell_other (h := by intro e; cases e)]; exact hv0
  · rw [World.cell?_setCell_other (h := by intro e; cases e)]; exact hv1
  · exact World.cell?_setCell_same _ _ _ hv2
  · rw [World.frozen?_setCell, hG.frozen_far ⟨hg, k, none⟩ (by dsimp only; omega) (Ne.symm hho)]; exact h.hf k
  · exact ownsRow_setCell_below (h.own.kept hG (by
      cases hv : v.ownBlock with
      | none => exact .inl rfl
      | some b => exact .inr (fun e => (h.vo b hv).2 e.symm))) (by dsimp only; omega) _
  · refine (h.ok q hq).next (by rw [World.size_setCell]; exact hsz) (fun b hb hbb hbad => ?_) (fun b hb hbb hbad => ?_)
    · rw [Below.heap_setCell _ _ _ _ (by dsimp only; omega)]
      exact hG.block b hb (fun e' => hbad (.inr (.inr e'.symm)))
    · rcases hbad with e | e | e
      · exact .inl e
      · exact .inr (.inl e)
      · exact .inr (.inr (fresh b hb e))
  · exact ownsRow_setCell_below (h.o.kept hG (by
      cases hv : (sv c.2.1).ownBlock with
      | none => exact .inl rfl
      | some b => exact .inr (fun e => h.on b hv e.symm))) (by dsimp only; omega) _
  · exact ownsRow_setCell_below own (by dsimp only; omega) _
  · have := own_block h.o b hb
    exact h.on b hb (fresh b this.2 hb')
  · have := own_block h.own b hb
    exact ⟨(h.vo b hb).1, fun e => (h.vo b hb).2 (fresh b this.2 e)⟩
/-- what finish asks for -/
theorem PBc.pbs {base pg hg : Nat} {w : World} {v : Value} {qs : List Q} {c : Q} (h : PBc base pg hg w v qs c) : PBs base pg qs.length w v qs :=
  ⟨h.pc, h.pf, h.pl, h.bl, h.own, Nat.le_refl _, fun q hq => (h.ok q hq).next (Nat.le_refl _) (fun _ _ _ _ => rfl) (fun _ _ _ hb => .inl hb)⟩
theorem PBc.qok {base pg hg : Nat} {w : World} {v : Value} {qs : List Q} {c : Q} (h : PBc base pg hg w v qs c) (so : ∀ x ∈ c.1.old, x.size ≤ 140737488351232) (sn : ∀ x ∈ c.1.new, x.size ≤ 140737488351232) (lo : c.1.old.length ≤ 10000000) (ln : c.1.new.length ≤ 10000000) : Qok base w (fun b => v.ownBlock = some b) c := by
  refine ⟨rd_of_own h.o so (by omega), rd_of_own h.n sn (by omega), fun a ha => ?_, fun a ha => ?_⟩
  · have := own_block h.o a.block (sv_block _ a ha)
    exact ⟨this.1, this.2, fun hb => (h.vo _ hb).1 (sv_block _ a ha)⟩
  · have := own_block h.n a.block (sv_block _ a ha)
    exact ⟨this.1, this.2, fun hb => (h.vo _ hb).2 (sv_block _ a ha)⟩
/-- a hunk is opened anew -/
theorem PBs.reopen {base pg hg k : Nat} {w : World} {v : Value} {qs : List Q} {z : Int} {o n : Value} (h : PBs base pg k w v qs) (hu : Hu w hg z o n) (hf : ∀ k, w.frozen? ⟨hg, k, none⟩ = false) (hl : hg < base) (ne : hg ≠ pg) (a : Int) :
    PBc base pg hg (((w.setCell ⟨hg, 0, none⟩ (.int .i64 a)).setCell ⟨hg, 1, none⟩ (.slice none 0 0)).setCell ⟨hg, 2, none⟩ (.slice none 0 0)) v qs (⟨a, [], []⟩, (none, 0, 0), (none, 0, 0)) := by
  have hbl := h.bl
  have hpl := h.pl
  have hlt := hu.lt
  have q1 : (w.setCell ⟨hg, 0, none⟩ (.int .i64 a)).cell? ⟨hg, 1, none⟩ = some o := by rw [World.cell?_setCell_other (h := by intro e; cases e)]; exact hu.c1
  have q2 : ((w.setCell ⟨hg, 0, none⟩ (.int .i64 a)).setCell ⟨hg, 1, none⟩ (.slice none 0 0)).cell? ⟨hg, 2, none⟩ = some n := by rw [World.cell?_setCell_other (h := by intro e; cases e), World.cell?_setCell_other (h := by intro e; cases e)]; exact hu.c2
  refine ⟨?_, ?_, h.pl, by simp only [World.size_setCell]; exact hbl, ⟨?_, ?_, ?_, by simp only [World.size_setCell]; exact hlt⟩, fun k => ?_, hl, ne, ?_, fun q hq => ?_, ?_, ?_, fun b hb => (by cases hb), fun b _ => ⟨fun e => (by cases e), fun e => (by cases e)⟩⟩
  · rw [World.cell?_setCell_other (h := by intro e; cases e), World.cell?_setCell_other (h := by intro e; cases e), World.cell?_setCell_other (h := by intro e; cases e; exact ne rfl)]; exact h.pc
  · rw [World.frozen?_setCell, World.frozen?_setCell, World.frozen?_setCell]; exact h.pf
  · rw [World.cell?_setCell_other (h := by intro e; cases e), World.cell?_setCell_other (h := by intro e; cases e)]; exact World.cell?_setCell_same _ _ _ hu.c0
  · rw [World.cell?_setCell_other (h := by intro e; cases e)]
    exact World.cell?_setCell_same _ _ _ q1
  · exact World.cell?_setCell_same _ _ _ q2
  · rw [World.frozen?_setCell, World.frozen?_setCell, World.frozen?_setCell]; exact hf k
  · exact ownsRow_setCell_below (ownsRow_setCell_below (ownsRow_setCell_below h.own (by dsimp only; omega) _) (by dsimp only; omega) _) (by dsimp only; omega) _
  · refine (h.ok q hq).next (by simp only [World.size_setCell]; exact Nat.le_refl _) (fun b hb hbb hbad => ?_) (fun b hb hbb hbad => ?_)
    · rw [Below.heap_setCell _ _ _ _ (by dsimp only; omega), Below.heap_setCell _ _ _ _ (by dsimp only; omega), Below.heap_setCell _ _ _ _ (by dsimp only; omega)]
    · rcases hbad with e | e | e
      · exact e
      · cases e
      · cases e
  · exact ownE_nil _ _ _
  · exact ownE_nil _ _ _
end Go.Proofs.Ytbgnckbgpiajjaa
namespace Go.Proofs.Ytbgnckbgpiajjaa
open Go.RowKit

theorem flat_str (l : List ByteArray) : l.flatMap strE.enc = l.map strv := by
  induction l with
  | nil => rfl
  | cons x l ih => rw [List.flatMap_cons, ih]; rfl
theorem wp_appL {ops : Array Oper} {rest : List Oper} {o : Oper} {a : Act} {Q : Exit → Act → World → Prop} {w : World} (hgd : o.guard = none) (s x : Operand)
    (ho : o.op = .call { callee := .builtin .append, args := #[s, x], argTypes := #[22, 22] })
    (base : Nat) (v : Value) (l m : List ByteArray) (p : Option Addr) (cap : Nat) (hs : a.eval s = v) (hown : OwnE strE base w v l) (hx : a.eval x = .slice p m.length cap) (hp : Sts w p m) (hcap : p = none → cap = 0)
    (hlen : l.length + m.length ≤ 8796093022208) (hbase : base ≤ w.heap.size)
    (h : ∀ v' w', OwnE strE base w' v' (l ++ m) → w.grownBy w' v.ownBlock → (v'.ownBlock = v.ownBlock ∨ v'.ownBlock = some w.heap.size) → wpList Try.prog ops Q rest (a.put o.dst v') w') : wpList Try.prog ops Q (o :: rest) a w := by
  obtain ⟨i0, hi, hz0, hz1, hz2⟩ := info_parts infoS
  have hown' : w.ownsRow base 9 1 v l.length (l.map strv) := by rw [← flat_str]; exact hown
  cases p with
  | none =>
    have hm := hp.nil' rfl
    subst hm
    have hc := hcap rfl
    subst hc
    refine wpList_append_own_none hgd s x 22 ho base 9 i0 1 Try.underlying22 hi v l.length (l.map strv) hs hown' hx ?_
    exact h v w (by rw [List.append_nil]; exact hown) (World.grownBy.refl _ _) (.inl rfl)
  | some ad =>
    refine wpList_append_own_at _ hgd s x 22 ho base 9 i0 (.string ByteArray.empty) 1 16 Try.underlying22 hi hz0 hz1 hz2 rfl (by decide) v l.length (l.map strv) hs hown' ad m.length cap (m.map strv) hx (by simp) ?_ ?_ (by unfold maxLen; omega) (by omega) hbase ?_
    · intro j u hj
      have hjl : j < m.length := by simpa using (List.getElem?_eq_some_iff.1 hj).1
      obtain ⟨b, off, e, hlt, hc⟩ := hp.at' (by intro e; subst e; simp at hjl)
      cases e
      rw [add_at, hc j hjl]
      simp [hjl, strv] at hj
      rw [← hj]
      simp [List.getD_eq_getElem?_getD, hjl]
    · intro u hu
      obtain ⟨n, _, rfl⟩ := List.mem_map.1 hu
      rfl
    · intro v' w' h1 h2 _ h4
      refine h v' w' ?_ h2 h4
      unfold OwnE
      rw [List.length_append, flat_str, List.map_append]
      exact h1
end Go.Proofs.Ytbgnckbgpiajjaa
