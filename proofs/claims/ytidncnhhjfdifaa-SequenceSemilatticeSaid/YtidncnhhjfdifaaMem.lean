
/-
  Slices of bytes and of strings in memory, and append to a slice of bytes of the call's own.
-/
import Derived.Test.YtidncnhhjfdifaaChecked
import Derived.WalkKit
import Derived.Handy
import Derived.WalkSmall
import Derived.ProofKit
import Derived.OpenShut
import Derived.ShutString
import Derived.SliceStrings
import Derived.Laws.AppendOwn
import Derived.Laws.AppendOwnNone
import Derived.Laws.IdiomStrings
import Derived.SizedLaws
namespace Go.Proofs.Ytidncnhhjfdifaa
open Go.RowKit Go.Lib
set_option maxRecDepth 4000

def u8v (n : Nat) : Value := .int .u8 (n : Int)
/-- a string's bytes as numbers -/
def bl (s : ByteArray) : List Nat := s.data.toList.map UInt8.toNat
theorem bl_length (s : ByteArray) : (bl s).length = s.size := by simp [bl]

/-- p leads in w to the bytes l -/
structure Bts (w : World) (p : Option Addr) (l : List Nat) : Prop where
  small : ∀ x ∈ l, x < 256
  len : l.length ≤ 281474976710656
  nil' : p = none → l = []
  at' : l ≠ [] → ∃ b off, p = some ⟨b, off, none⟩ ∧ b < w.heap.size ∧ ∀ i, i < l.length → w.cell? ⟨b, off + i, none⟩ = some (.int .u8 ((l.getD i 0 : Nat) : Int))

/-- p leads in w to the strings l -/
structure Sts (w : World) (p : Option Addr) (l : List ByteArray) : Prop where
  small : ∀ x ∈ l, x.size ≤ 140737488351232
  len : l.length ≤ 281474976710656
  nil' : p = none → l = []
  at' : l ≠ [] → ∃ b off, p = some ⟨b, off, none⟩ ∧ b < w.heap.size ∧ ∀ i, i < l.length → w.cell? ⟨b, off + i, none⟩ = some (.string (l.getD i ByteArray.empty))

theorem Bts.mono {w w' : World} {p : Option Addr} {l : List Nat} (h : Bts w p l) (hb : Below w.heap.size w w') : Bts w' p l := by
  refine ⟨h.small, h.len, h.nil', fun hn => ?_⟩
  obtain ⟨b, off, rfl, hlt, hc⟩ := h.at' hn
  exact ⟨b, off, rfl, Nat.lt_of_lt_of_le hlt hb.size, fun i hi => by rw [hb.cell (p := ⟨b, off + i, none⟩) hlt, hc i hi]⟩
theorem Sts.mono {w w' : World} {p : Option Addr} {l : List ByteArray} (h : Sts w p l) (hb : Below w.heap.size w w') : Sts w' p l := by
  refine ⟨h.small, h.len, h.nil', fun hn => ?_⟩
  obtain ⟨b, off, rfl, hlt, hc⟩ := h.at' hn
  exact ⟨b, off, rfl, Nat.lt_of_lt_of_le hlt hb.size, fun i hi => by rw [hb.cell (p := ⟨b, off + i, none⟩) hlt, hc i hi]⟩

theorem cell_block_lt {w : World} {a : Addr} {v : Value} (h : w.cell? a = some v) : a.block < w.heap.size := by
  unfold World.cell? at h
  split at h
  · rename_i c e f heq
    exact (Array.getElem?_eq_some_iff.1 heq).1
  · cases h
theorem cell_spot {w : World} {a : Addr} {v : Value} (h : w.cell? a = some v) : a.spot = none := by
  unfold World.cell? at h
  split at h
  · cases hs : a.spot with
    | none => rfl
    | some x => simp [hs] at h
  · cases h

theorem add_at (b off i : Nat) : (⟨b, off, none⟩ : Addr).add i = ⟨b, off + i, none⟩ := by
  unfold Addr.add
  split
  · rename_i h; subst h; rfl
  · rfl
theorem add_spot (a : Addr) : (a.add 0) = a := rfl

/-- a slice of bytes that came in, as the form reads it -/
theorem bts_open {H : Type} {enc : TypeId × Value → H} {W : World} {v : Value} {d : DataW H} {ps : List MemPlace} {fuel t e : Nat} (ht : Try.prog.underlying t = some (.slice e)) (he : Try.prog.underlying e = some (.int .u8)) (hc : Try.prog.cellsOf e = 1) (hby : Try.prog.bytesOf e = 1)
    (hv : ∃ p len cap, v = .slice p len cap)
    (h : DataW.trod enc Try.prog W 0 (fun _ => true) true fuel t v.cells.toList = some (d, ps))
    (hsz : (d.weights Try.prog t).all (· ≤ 140737488351232) = true) :
    ∃ p l cap, v = .slice p (List.length l) cap ∧ Bts W p l ∧ (p = none → cap = 0) ∧ l.length ≤ 140737488351232 := by
  obtain ⟨p, len, cap, rfl⟩ := hv
  rcases ChangeShapes.open_ints ht he hc h with ⟨hcs, _⟩ | ⟨x, l, c, zs, hcs, _, hl, hm, hz, hx, hcell, hwz⟩
  · simp [Value.cells] at hcs
    obtain ⟨rfl, rfl, rfl⟩ := hcs
    exact ⟨none, [], 0, rfl, ⟨by simp, by simp, fun _ => rfl, fun h => (h rfl).elim⟩, fun _ => rfl, by simp⟩
  · simp [Value.cells] at hcs
    obtain ⟨rfl, rfl, rfl⟩ := hcs
    have hd : d = .slice (ChangeShapes.lits .u8 (zs.take len)) (ChangeShapes.lits .u8 (zs.drop len)) := congrArg Prod.fst hx
    subst hd
    have hall := List.all_eq_true.1 hsz
    simp only [DataW.weights, ht] at hall
    have hs := of_decide_eq_true (hall _ (List.mem_cons_self ..))
    have hzl : zs.length = cap := by simpa using hz
    have hlen : ((zs.take len).map Int.toNat).length = len := by simp; omega
    refine ⟨some x, (zs.take len).map Int.toNat, cap, by rw [hlen], ⟨?_, ?_, (fun h => by cases h), fun hn => ?_⟩, (fun h => by cases h), ?_⟩
    · intro y hy
      obtain ⟨n, hn, rfl⟩ := List.mem_map.1 hy
      have := hwz n (List.mem_of_mem_take hn)
      simp [Lit.wf, IntKind.min, IntKind.max, IntKind.signed, IntKind.bits] at this
      omega
    · rw [hlen]
      simp [ChangeShapes.lits, hby] at hs
      omega
    · have h0 : 0 < len := by
        rcases Nat.eq_zero_or_pos len with h0 | h0
        · subst h0; simp at hn
        · exact h0
      have hc0 := hcell 0 (by omega)
      have hsp := cell_spot hc0
      have hlt := cell_block_lt hc0
      rw [add_spot] at hsp hlt
      obtain ⟨b, off, sp⟩ := x
      dsimp only at hsp hlt
      subst hsp
      refine ⟨b, off, rfl, hlt, fun i hi => ?_⟩
      rw [hlen] at hi
      have := hcell i (by omega)
      rw [add_at] at this
      rw [this]
      have hwf := hwz (zs[i]'(by omega)) (List.getElem_mem _)
      simp [Lit.wf, IntKind.min, IntKind.max, IntKind.signed, IntKind.bits] at hwf
      refine congrArg some (congrArg (Value.int .u8) ?_)
      simp [List.getD_eq_getElem?_getD, hi, List.getElem?_eq_getElem (show i < zs.length by omega)]
      omega
    · rw [hlen]
      simp [ChangeShapes.lits, hby] at hs
      omega

/-- a slice of strings that came in -/
theorem sts_open {H : Type} {enc : TypeId × Value → H} {W : World} {v : Value} {d : DataW H} {ps : List MemPlace} {fuel t e : Nat} (ht : Try.prog.underlying t = some (.slice e)) (he : Try.prog.underlying e = some .string) (hc : Try.prog.cellsOf e = 1) (hby : Try.prog.bytesOf e = 16)
    (hv : ∃ p len cap, v = .slice p len cap)
    (h : DataW.trod enc Try.prog W 0 (fun _ => true) true fuel t v.cells.toList = some (d, ps))
    (hsz : (d.weights Try.prog t).all (· ≤ 140737488351232) = true) :
    ∃ p l cap, v = .slice p (List.length l) cap ∧ Sts W p l ∧ (p = none → cap = 0) ∧ l.length ≤ 8796093021952 ∧ l.length ≤ cap := by
  obtain ⟨p, len, cap, rfl⟩ := hv
  rcases ChangeShapes.open_strings ht he hc h with ⟨hcs, _⟩ | ⟨x, l, c, ss, hcs, _, hl, hm, hz, hx, hcell, hws⟩
  · simp [Value.cells] at hcs
    obtain ⟨rfl, rfl, rfl⟩ := hcs
    exact ⟨none, [], 0, rfl, ⟨by simp, by simp, fun _ => rfl, fun h => (h rfl).elim⟩, fun _ => rfl, by simp, by simp⟩
  · simp [Value.cells] at hcs
    obtain ⟨rfl, rfl, rfl⟩ := hcs
    have hd : d = .slice (ChangeShapes.strs (ss.take len)) (ChangeShapes.strs (ss.drop len)) := congrArg Prod.fst hx
    subst hd
    have hzl : ss.length = cap := by simpa using hz
    have hlen : (ss.take len).length = len := by simp; omega
    have hall := List.all_eq_true.1 hsz
    simp only [DataW.weights, ht] at hall
    have hs := hall _ (List.mem_cons_self ..)
    simp [ChangeShapes.strs, hby] at hs
    refine ⟨some x, ss.take len, cap, by rw [hlen], ⟨?_, ?_, (fun h => by cases h), fun hn => ?_⟩, (fun h => by cases h), ?_, ?_⟩
    · intro s hs'
      have hm' : ∀ (l : List ByteArray), s ∈ l → s.data.toList.length ∈ DataW.weightsAll (H := H) Try.prog e (ChangeShapes.strs l) := by
        intro l
        induction l with
        | nil => intro h; cases h
        | cons y r ih =>
          intro h
          simp only [ChangeShapes.strs, List.map_cons, DataW.weightsAll, DataW.weights, List.mem_append, List.mem_singleton]
          rcases List.mem_cons.1 h with rfl | h
          · exact .inl rfl
          · exact .inr (ih h)
      have := hall _ (List.mem_cons_of_mem _ (List.mem_append_left _ (hm' _ hs')))
      simpa using this
    · rw [hlen]; omega
    · have h0 : 0 < len := by
        rcases Nat.eq_zero_or_pos len with h0 | h0
        · subst h0; simp at hn
        · exact h0
      have hc0 := hcell 0 (by omega)
      have hsp := cell_spot hc0
      have hlt := cell_block_lt hc0
      rw [add_spot] at hsp hlt
      obtain ⟨b, off, sp⟩ := x
      dsimp only at hsp hlt
      subst hsp
      refine ⟨b, off, rfl, hlt, fun i hi => ?_⟩
      rw [hlen] at hi
      have := hcell i (by omega)
      rw [add_at] at this
      rw [this]
      refine congrArg some (congrArg Value.string ?_)
      simp [List.getD_eq_getElem?_getD, hi]
    · rw [hlen]; omega
    · rw [hlen]; omega

/-- a slice of bytes of the call's own -/
def Own8 (base : Nat) (w : World) (v : Value) (l : List Nat) : Prop := w.ownsRow base 5 1 v l.length (l.map u8v)

theorem own8_empty (w : World) (g base : Nat) (hg : g = w.heap.size) (hb : base ≤ w.heap.size) : Own8 base (w.alloc (.cells #[] 5)) (.slice (some ⟨g, 0, none⟩) 0 0) [] := by
  subst hg
  exact World.ownsRow_lit w #[] 0 hb (by decide) rfl

theorem bts_of_own {base : Nat} {w : World} {v : Value} {l : List Nat} (h : Own8 base w v l) (hs : ∀ x ∈ l, x < 256) (hl : l.length ≤ 281474976710656) :
    ∃ p cap, v = .slice p l.length cap ∧ Bts w p l ∧ (p = none → cap = 0) := by
  obtain ⟨hlen, ⟨rfl, h0⟩ | ⟨g, cap, cur, rfl, hb, hg, hn, hm, hsz, htk⟩⟩ := h
  · have : l = [] := List.length_eq_zero_iff.1 h0
    subst this
    exact ⟨none, 0, rfl, ⟨by simp, by simp, fun _ => rfl, fun h => (h rfl).elim⟩, fun _ => rfl⟩
  · refine ⟨some ⟨g, 0, none⟩, cap, rfl, ⟨hs, hl, (fun h => by cases h), fun _ => ⟨g, 0, rfl, (Array.getElem?_eq_some_iff.1 hg).1, fun i hi => ?_⟩⟩, (fun h => by cases h)⟩
    rw [Nat.zero_add]
    have e : cur[i]? = (l.map u8v)[i]? := by
      rw [← htk, List.getElem?_take, if_pos (by omega), Array.getElem?_toList]
    unfold World.cell?
    dsimp only
    rw [hg]
    simp only [Option.isSome_none, Bool.false_eq_true, if_false]
    rw [e]
    simp [u8v, List.getD_eq_getElem?_getD, hi]

theorem info8 : (Try.prog.info? 5).map (fun i => (i.zero, i.size, i.bytes)) = some (some (.int .u8 0), 1, 1) := by kernel_rfl

/-- the one-element slice that 'append(v, c)' makes first -/
theorem bts_one (w : World) (g n : Nat) (hg : g = w.heap.size) (hn : n < 256) : Bts (w.alloc (.cells #[.int .u8 (n : Int)] 5)) (some ⟨g, 0, none⟩) [n] := by
  subst hg
  refine ⟨by simpa using hn, by simp, (fun h => by cases h), fun _ => ⟨w.heap.size, 0, rfl, by simp, fun i hi => ?_⟩⟩
  have : i = 0 := by simpa using hi
  subst this
  rw [Nat.zero_add, World.cell?_alloc_mark]
  rfl
def strv (s : ByteArray) : Value := .string s
/-- a slice of strings of the call's own -/
def OwnS (base : Nat) (w : World) (v : Value) (l : List ByteArray) : Prop := w.ownsRow base 9 1 v l.length (l.map strv)
theorem ownS_empty (w : World) (g base : Nat) (hg : g = w.heap.size) (hb : base ≤ w.heap.size) : OwnS base (w.alloc (.cells #[] 9)) (.slice (some ⟨g, 0, none⟩) 0 0) [] := by
  subst hg
  exact World.ownsRow_lit w #[] 0 hb (by decide) rfl
theorem sts_of_own {base : Nat} {w : World} {v : Value} {l : List ByteArray} (h : OwnS base w v l) (hs : ∀ x ∈ l, x.size ≤ 140737488351232) (hl : l.length ≤ 281474976710656) :
    ∃ p cap, v = .slice p l.length cap ∧ Sts w p l ∧ (p = none → cap = 0) := by
  obtain ⟨hlen, ⟨rfl, h0⟩ | ⟨g, cap, cur, rfl, hb, hg, hn, hm, hsz, htk⟩⟩ := h
  · have : l = [] := List.length_eq_zero_iff.1 h0
    subst this
    exact ⟨none, 0, rfl, ⟨by simp, by simp, fun _ => rfl, fun h => (h rfl).elim⟩, fun _ => rfl⟩
  · refine ⟨some ⟨g, 0, none⟩, cap, rfl, ⟨hs, hl, (fun h => by cases h), fun _ => ⟨g, 0, rfl, (Array.getElem?_eq_some_iff.1 hg).1, fun i hi => ?_⟩⟩, (fun h => by cases h)⟩
    rw [Nat.zero_add]
    have e : cur[i]? = (l.map strv)[i]? := by
      rw [← htk, List.getElem?_take, if_pos (by omega), Array.getElem?_toList]
    unfold World.cell?
    dsimp only
    rw [hg]
    simp only [Option.isSome_none, Bool.false_eq_true, if_false]
    rw [e]
    simp [strv, List.getD_eq_getElem?_getD, hi]
theorem infoS : (Try.prog.info? 9).map (fun i => (i.zero, i.size, i.bytes)) = some (some (.string ByteArray.empty), 1, 16) := by kernel_rfl
/-- 'append(v, x...)' for a slice of strings of the call's own -/
theorem wp_appS {ops : Array Oper} {rest : List Oper} {o : Oper} {a : Act} {Q : Exit → Act → World → Prop} {w : World} (hgd : o.guard = none) (s x : Operand)
    (ho : o.op = .call { callee := .builtin .append, args := #[s, x], argTypes := #[42, 42] })
    (base : Nat) (v : Value) (l m : List ByteArray) (p : Option Addr) (cap : Nat) (hs : a.eval s = v) (hown : OwnS base w v l) (hx : a.eval x = .slice p m.length cap) (hp : Sts w p m) (hcap : p = none → cap = 0)
    (hlen : l.length + m.length ≤ 8796093022208) (hbase : base ≤ w.heap.size)
    (h : ∀ v' w', OwnS base w' v' (l ++ m) → Below base w w' → wpList Try.prog ops Q rest (a.put o.dst v') w') : wpList Try.prog ops Q (o :: rest) a w := by
  obtain ⟨i0, hi, hz0, hz1, hz2⟩ := info_parts infoS
  cases p with
  | none =>
    have hm := hp.nil' rfl
    subst hm
    have hc := hcap rfl
    subst hc
    refine wpList_append_own_none hgd s x 42 ho base 9 i0 1 Try.underlying42 hi v l.length (l.map strv) hs hown hx ?_
    have := h v w (by rw [List.append_nil]; exact hown) (Below.refl _ _)
    exact this
  | some ad =>
    refine wpList_append_own _ hgd s x 42 ho base 9 i0 (.string ByteArray.empty) 1 16 Try.underlying42 hi hz0 hz1 hz2 rfl (by decide) v l.length (l.map strv) hs hown ad m.length cap (m.map strv) hx (by simp) ?_ ?_ (by unfold maxLen; omega) (by omega) hbase ?_
    · intro j u hj
      have hjl : j < m.length := by simpa using (List.getElem?_eq_some_iff.1 hj).1
      obtain ⟨b, off, e, hlt, hc⟩ := hp.at' (by intro e; subst e; simp at hjl)
      cases e
      rw [add_at, hc j hjl]
      simp [hjl, strv] at hj
      rw [← hj]
      simp [List.getD_eq_getElem?_getD, hjl]
    · intro u hu
      obtain ⟨n, _, rfl⟩ := List.mem_map.1 hu
      rfl
    · intro v' w' h1 h2 _
      refine h v' w' ?_ ((Below.refl _ _).grown h2 hbase fun k hk => (hown.lt k hk).1)
      unfold OwnS
      rw [List.length_append, List.map_append]
      exact h1
theorem sts_one (w : World) (g : Nat) (s : ByteArray) (hg : g = w.heap.size) (hs : s.size ≤ 140737488351232) : Sts (w.alloc (.cells #[.string s] 9)) (some ⟨g, 0, none⟩) [s] := by
  subst hg
  refine ⟨by simpa using hs, by simp, (fun h => by cases h), fun _ => ⟨w.heap.size, 0, rfl, by simp, fun i hi => ?_⟩⟩
  have : i = 0 := by simpa using hi
  subst this
  rw [Nat.zero_add, World.cell?_alloc_mark]
  rfl
theorem snoc_sizes {l : List ByteArray} {c : ByteArray} {n : Nat} (h : ∀ x ∈ l, x.size ≤ n) (hc : c.size ≤ n) : ∀ x ∈ l ++ [c], x.size ≤ n := by
  intro x hx
  rcases List.mem_append.1 hx with hx | hx
  · exact h x hx
  · rw [List.mem_singleton.1 hx]; exact hc
theorem bcell {W w1 : World} (hb : Below W.heap.size W w1) : (∀ b o, b < W.heap.size → w1.cell? ⟨b, o, none⟩ = W.cell? ⟨b, o, none⟩) ∧ (∀ b o, b < W.heap.size → w1.frozen? ⟨b, o, none⟩ = W.frozen? ⟨b, o, none⟩) :=
  ⟨fun b o h => hb.cell (p := ⟨b, o, none⟩) h, fun b o h => hb.frozen (p := ⟨b, o, none⟩) h⟩
theorem up_alloc {w W : World} (h : Below w.heap.size w W) (o : Obj) : Below w.heap.size w (W.alloc o) := h.alloc h.size o
theorem up_call {w W w' : World} (h : Below w.heap.size w W) (hb : Below W.heap.size W w') : Below w.heap.size w w' := h.trans (hb.mono h.size)
theorem up_own {w W w' : World} (h : Below w.heap.size w W) (hb : Below w.heap.size W w') : Below w.heap.size w w' := h.trans hb
/-- a fault that lies in block g -/
structure Flt (w : World) (g : Nat) (c i : Int) : Prop where
  c0 : w.cell? ⟨g, 0, none⟩ = some (.int .i64 c)
  c1 : w.cell? ⟨g, 1, none⟩ = some (.int .i64 i)
  f0 : w.frozen? ⟨g, 0, none⟩ = false
  f1 : w.frozen? ⟨g, 1, none⟩ = false
  lt : g < w.heap.size
theorem Flt.new (w : World) (c i : Int) (t : TypeId) : Flt (w.alloc (.cells #[.int .i64 c, .int .i64 i] t (0, 0))) w.heap.size c i := by
  refine ⟨?_, ?_, ?_, ?_, by rw [World.size_alloc]; omega⟩
  · rw [World.cell?_alloc_mark]; rfl
  · rw [World.cell?_alloc_mark]; rfl
  · rw [World.frozen?_alloc_mark]; rfl
  · rw [World.frozen?_alloc_mark]; rfl
theorem Flt.mono {w w' : World} {g B : Nat} {c i : Int} (h : Flt w g c i) (hb : Below B w w') (hg : g < B) : Flt w' g c i := by
  refine ⟨?_, ?_, ?_, ?_, Nat.lt_of_lt_of_le h.lt hb.size⟩
  · rw [hb.cell (p := ⟨g, 0, none⟩) hg, h.c0]
  · rw [hb.cell (p := ⟨g, 1, none⟩) hg, h.c1]
  · rw [hb.frozen (p := ⟨g, 0, none⟩) hg, h.f0]
  · rw [hb.frozen (p := ⟨g, 1, none⟩) hg, h.f1]
theorem Flt.up {w w' : World} {g : Nat} {c i : Int} (h : Flt w g c i) (hb : Below w.heap.size w w') : Flt w' g c i := h.mono hb h.lt
theorem Flt.alloc {w : World} {g : Nat} {c i : Int} (h : Flt w g c i) (o : Obj) : Flt (w.alloc o) g c i := h.up ((Below.refl _ _).alloc (Nat.le_refl _) o)
theorem Flt.set2 {w : World} {g : Nat} {c i : Int} (h : Flt w g c i) (a b : Int) : Flt ((w.setCell ⟨g, 0, none⟩ (.int .i64 a)).setCell ⟨g, 1, none⟩ (.int .i64 b)) g a b := by
  have n1 : (⟨g, 1, none⟩ : Addr) ≠ ⟨g, 0, none⟩ := by simp
  have k1 : (w.setCell ⟨g, 0, none⟩ (.int .i64 a)).cell? ⟨g, 1, none⟩ = some (.int .i64 i) := by rw [World.cell?_setCell_other (h := n1.symm), h.c1]
  refine ⟨?_, ?_, ?_, ?_, ?_⟩
  · rw [World.cell?_setCell_other (h := n1), World.cell?_setCell_same (h := h.c0)]
  · rw [World.cell?_setCell_same (h := k1)]
  · rw [World.frozen?_setCell, World.frozen?_setCell, h.f0]
  · rw [World.frozen?_setCell, World.frozen?_setCell, h.f1]
  · rw [World.size_setCell, World.size_setCell]; exact h.lt
theorem Flt.far {w : World} {g g' : Nat} {c i : Int} (h : Flt w g c i) (hg : g' ≠ g) (x y : Value) : Flt ((w.setCell ⟨g', 0, none⟩ x).setCell ⟨g', 1, none⟩ y) g c i := by
  have n : ∀ j k, (⟨g', j, none⟩ : Addr) ≠ ⟨g, k, none⟩ := fun j k e => hg (by cases e; rfl)
  refine ⟨?_, ?_, ?_, ?_, ?_⟩
  · rw [World.cell?_setCell_other (h := n _ _), World.cell?_setCell_other (h := n _ _), h.c0]
  · rw [World.cell?_setCell_other (h := n _ _), World.cell?_setCell_other (h := n _ _), h.c1]
  · rw [World.frozen?_setCell, World.frozen?_setCell, h.f0]
  · rw [World.frozen?_setCell, World.frozen?_setCell, h.f1]
  · rw [World.size_setCell, World.size_setCell]; exact h.lt
theorem Flt.drewN {w : World} {g : Nat} {c i : Int} (h : Flt w g c i) (n : Nat) : Flt (w.drewN n) g c i := ⟨h.c0, h.c1, h.f0, h.f1, h.lt⟩
theorem snoc_small {l : List Nat} {c : Nat} (h : ∀ x ∈ l, x < 256) (hc : c < 256) : ∀ x ∈ l ++ [c], x < 256 := by
  intro x hx
  rcases List.mem_append.1 hx with hx | hx
  · exact h x hx
  · rw [List.mem_singleton.1 hx]; exact hc
theorem bts_drew {w : World} {p : Option Addr} {l : List Nat} (h : Bts w p l) (n : Nat) : Bts (w.drewN n) p l := ⟨h.small, h.len, h.nil', h.at'⟩
theorem sts_drew {w : World} {p : Option Addr} {l : List ByteArray} (h : Sts w p l) (n : Nat) : Sts (w.drewN n) p l := ⟨h.small, h.len, h.nil', h.at'⟩
def QPost (v : Value) (w : World) (e : Ending) (w' : World) : Prop := e = .returned v ∧ ∃ n, w' = w.drewN n
def BPost (v : Value) (w : World) (e : Ending) (w' : World) : Prop := e = .returned v ∧ Below w.heap.size w w'
def TPost (w : World) (e : Ending) (w' : World) : Prop := e = .returned (.bool true) ∧ Below w.heap.size w w'
theorem quiet_sum {f : FuncId} {args : Array Value} {X : World} {a b : Nat} {v : Value} (h : Calls Try.prog f args (X.drewN (a + b)) (QPost v (X.drewN (a + b)))) :
    Calls Try.prog f args (X.drewN (a + b)) fun e w'' => e = .returned v ∧ ∃ n, w'' = X.drewN (a + n) :=
  h.mono fun _ _ ⟨he, m, hm⟩ => ⟨he, b + m, by rw [hm, World.drewN_drewN, Nat.add_assoc]⟩
end Go.Proofs.Ytidncnhhjfdifaa
