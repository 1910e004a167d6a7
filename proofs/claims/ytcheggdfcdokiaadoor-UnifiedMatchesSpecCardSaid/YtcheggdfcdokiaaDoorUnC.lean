
/-
  A strings.Builder whose buffer lies behind whatever was laid before it is written; the program's unified: writeLines, growthOf, rangeOf, headerOf, writeGroup, walked.
-/
import Derived.Test.YtcheggdfcdokiaaDoorUnA
import Derived.Test.YtcheggdfcdokiaaDoorLinE
import Derived.Test.YtcheggdfcdokiaaDoorTpE
import Derived.Test.YtcheggdfcdokiaaDoorOver
import Derived.Lib.OthersKept
namespace Go.Proofs.YtcheggdfcdokiaaDoor
open Go.RowKit
set_option maxRecDepth 4000

/-- block b is a builder that holds bs; its buffer lies from B on -/
structure Bld (B b : Nat) (bs : List Value) (w : World) : Prop where
  lt : b < B
  sz : B ≤ w.heap.size
  at' : ∃ p v, (p = .pointer none ∨ p = .pointer (some ⟨b, 0, none⟩)) ∧ w.heap[b]? = some (.cells #[p, v] 42 (0, 0)) ∧ w.ownsRow B 5 1 v bs.length bs
/-- all blocks below B but b are as they were, and whatever is no row of bytes -/
structure Bf (B b : Nat) (w w' : World) : Prop where
  os : w'.os = w.os
  tape : w'.tape = w.tape
  output : w'.output = w.output
  size : w.heap.size ≤ w'.heap.size
  block : ∀ k, k < B → k ≠ b → w'.heap[k]? = w.heap[k]?
  keep : Lib.OthersKept 5 (some b) w w'
theorem Bf.refl (B b : Nat) (w : World) : Bf B b w w := ⟨rfl, rfl, rfl, Nat.le_refl _, fun _ _ _ => rfl, Lib.OthersKept.refl _ _ _⟩
theorem Bf.trans {B b : Nat} {w w' w'' : World} (h : Bf B b w w') (k : Bf B b w' w'') : Bf B b w w'' :=
  ⟨k.os.trans h.os, k.tape.trans h.tape, k.output.trans h.output, Nat.le_trans h.size k.size, fun j h1 h2 => (k.block j h1 h2).trans (h.block j h1 h2), h.keep.trans k.keep⟩
theorem Bf.below {B b : Nat} {w w' : World} (h : Bf B b w w') (hb : b ≤ B) : Below b w w' := ⟨h.os, h.tape, h.output, h.size, fun k hk => h.block k (by omega) (by omega)⟩
theorem bf_below {B b : Nat} {w w' : World} (h : Below w.heap.size w w') (hB : B ≤ w.heap.size) : Bf B b w w' :=
  ⟨h.os, h.tape, h.output, h.size, fun k hk _ => h.block k (by omega), fun k o hk _ _ => by rw [h.block k (Array.getElem?_eq_some_iff.1 hk).1]; exact hk⟩
theorem bf_set {B b : Nat} (w : World) (k : Nat) (u : Value) : Bf B b w (w.setCell ⟨b, k, none⟩ u) :=
  ⟨rfl, rfl, rfl, by rw [World.size_setCell]; exact Nat.le_refl _, fun j _ h2 => Below.heap_setCell _ _ _ _ (by exact h2), Lib.OthersKept.setCell (b := b) (Lib.OthersKept.refl _ (some b) w) ⟨b, k, none⟩ rfl u⟩
theorem bf_grown {B b base : Nat} {w w' : World} {v : Value} {n : Nat} {xs : List Value} (h : w.grownBy w' v.ownBlock) (ho : w.ownsRow base 5 1 v n xs) (hB : B ≤ w.heap.size) (hr : B ≤ base) : Bf B b w w' :=
  ⟨h.os, h.tape, h.output, h.size, fun k h1 _ => h.block k (by omega) (fun e => by have := (ho.lt k e.symm).1; omega), (Lib.OthersKept.refl _ _ _).grown h fun g hg => by
    obtain ⟨-, ⟨rfl, -⟩ | ⟨g', cap, cur, rfl, -, hc, -⟩⟩ := ho
    · cases hg
    · cases hg; exact ⟨_, _, hc⟩⟩
/-- a block of another kind is kept -/
theorem Bf.obj {B b g : Nat} {w w' : World} {cs : Array Value} {ty : TypeId} {fr : Nat × Nat} (h : Bf B b w w') (hb : w.heap[g]? = some (.cells cs ty fr)) (ht : ty ≠ 5) (hne : g ≠ b) : w'.heap[g]? = some (.cells cs ty fr) :=
  h.keep g _ hb (fun e => hne (Option.some.inj e)) (fun c fz e => ht (by cases e; rfl))
theorem Bld.up {B b : Nat} {bs : List Value} {w w' : World} (h : Bld B b bs w) (hb : Below w.heap.size w w') : Bld B b bs w' := by
  obtain ⟨p, v, h1, h2, h3⟩ := h.at'
  refine ⟨h.lt, Nat.le_trans h.sz hb.size, p, v, h1, by rw [hb.block b (Array.getElem?_eq_some_iff.1 h2).1]; exact h2, ?_⟩
  obtain ⟨a1, a2 | ⟨g, cap, cur, e, hg, hc, r⟩⟩ := h3
  · exact ⟨a1, .inl a2⟩
  · exact ⟨a1, .inr ⟨g, cap, cur, e, hg, by rw [hb.block g (Array.getElem?_eq_some_iff.1 hc).1]; exact hc, r⟩⟩
theorem Bld.is {B b : Nat} {bs : List Value} {w : World} (h : Bld B b bs w) : Lib.IsBuilder 42 5 b b bs w := by
  have hlt := h.lt
  obtain ⟨p, v, h1, h2, h3⟩ := h.at'
  have h4 : w.ownsRow b 5 1 v bs.length bs := by
    obtain ⟨a1, a2 | ⟨g, cap, cur, e, hg, r⟩⟩ := h3
    · exact ⟨a1, .inl a2⟩
    · exact ⟨a1, .inr ⟨g, cap, cur, e, by omega, r⟩⟩
  have h5 : v.ownBlock ≠ some b := fun e => by have := (h3.lt b e).1; omega
  rcases h1 with rfl | rfl
  · exact .inl ⟨Nat.le_refl _, v, h2, h4, h5⟩
  · exact .inr ⟨Nat.le_refl _, v, h2, h4, h5⟩
theorem Bld.fresh (w : World) (B : Nat) (hB : w.heap.size < B) : B ≤ w.heap.size + 1 → Bld B w.heap.size [] (w.alloc (.cells #[.pointer none, .slice none 0 0] 42)) := fun h =>
  ⟨hB, by rw [World.size_alloc]; exact h, .pointer none, .slice none 0 0, .inl rfl, heap_alloc_new w _, World.ownsRow_nil _ _ _ _⟩

theorem bldCheck_any (B b : Nat) (bs : List Value) (w : World) (h : Bld B b bs w) :
    Calls Tryd.prog 35 #[.pointer (some ⟨b, 0, none⟩)] w fun e w' => e = .returned (.tuple #[]) ∧ (∃ v, w'.heap[b]? = some (.cells #[.pointer (some ⟨b, 0, none⟩), v] 42 (0, 0)) ∧ w'.ownsRow B 5 1 v bs.length bs) ∧ Bf B b w w' := by
  have hlt := h.lt
  obtain ⟨p, v, h1, h2, h3⟩ := h.at'
  rcases h1 with rfl | rfl
  · refine (copyCheck_fresh b w (by rw [Lib.cell_of_heap h2]; rfl) (by unfold World.shape?; rw [h2]; rfl) (Lib.frozen_of_heap h2 0)).mono ?_
    rintro e w' ⟨rfl, rfl⟩
    refine ⟨rfl, ⟨v, ?_, ownsRow_setCell_below h3 (by exact hlt) _⟩, bf_set w 0 _⟩
    unfold World.setCell
    dsimp only
    rw [Array.getElem?_modify, if_pos rfl, h2]
    rfl
  · refine (copyCheck_used b w (by rw [Lib.cell_of_heap h2]; rfl)).mono ?_
    rintro e w' ⟨rfl, rfl⟩
    exact ⟨rfl, ⟨v, h2, h3⟩, Bf.refl _ _ _⟩
theorem bld_put {B b : Nat} {p v v' : Value} {bs' : List Value} {w : World} (hlt : b < B) (hz : B ≤ w.heap.size) (hp : p = .pointer none ∨ p = .pointer (some ⟨b, 0, none⟩)) (hb : w.heap[b]? = some (.cells #[p, v] 42 (0, 0))) (hown : w.ownsRow B 5 1 v' bs'.length bs') : Bld B b bs' (w.setCell ⟨b, 1, none⟩ v') := by
  refine ⟨hlt, by rw [World.size_setCell]; exact hz, p, v', hp, ?_, ownsRow_setCell_below hown (by exact hlt) _⟩
  unfold World.setCell
  dsimp only
  rw [Array.getElem?_modify, if_pos rfl, hb]
  rfl

set_option maxHeartbeats 2000000 in
set_option maxRecDepth 100000 in
theorem bldByte_any (B b : Nat) (bs : List Value) (c : UInt8) (w : World) (h : Bld B b bs w) (hlen : bs.length + 1 ≤ 140737488355328) :
    Calls Tryd.prog 47 #[.pointer (some ⟨b, 0, none⟩), .int .u8 (c.toNat : Int)] w fun e w' => e = .returned .nilIface ∧ Bld B b (bs ++ [.int .u8 (c.toNat : Int)]) w' ∧ Bf B b w w' := by
  obtain ⟨i0, hi, hz0, hz1, hz2⟩ := info_parts info8
  have hlt := h.lt
  have hsz := h.sz
  go_enter Tryd.func47, Tryd.ntmps47
  go_wp2_with fail
  refine (bldCheck_any B b bs _ h).mono ?_
  rintro e w1 ⟨rfl, ⟨v, hbk, hown⟩, hb1⟩
  have c0 : w1.cell? ⟨b, 0, none⟩ = some (.pointer (some ⟨b, 0, none⟩)) := by rw [Lib.cell_of_heap hbk]; rfl
  have c1 : w1.cell? ⟨b, 1, none⟩ = some v := by rw [Lib.cell_of_heap hbk]; rfl
  have hz := hb1.size
  go_wp2_with (at_builtin; refine Halt.out ?_)
  refine ⟨?_⟩
  refine wpList_append_own_at _ rfl (.tmp 11) (.tmp 13) 40 rfl B 5 i0 (.int .u8 0) 1 1 Tryd.underlying40 hi hz0 hz1 hz2 rfl (by decide) v bs.length bs rfl (hown.alloc _) ⟨w1.heap.size, 0, none⟩ 1 1 [.int .u8 (c.toNat : Int)] rfl rfl ?c1 ?c2 (by unfold maxLen; omega) (by omega) (by rw [World.size_alloc]; omega) ?_
  case c1 =>
    intro k u hu
    rw [add_at, Nat.zero_add, World.cell?_alloc_mark]
    match k, hu with
    | 0, hu => simpa using hu
  case c2 => intro u hu; rw [List.mem_singleton.1 hu]; rfl
  intro v' w2 hown' gr _ _
  have hgrow : w1.grownBy w2 v.ownBlock := grow_trans (World.grownBy_alloc w1 _ none) gr
  have hlt1 : b < w1.heap.size := (Array.getElem?_eq_some_iff.1 hbk).1
  have hb2 : w2.heap[b]? = some (.cells #[.pointer (some ⟨b, 0, none⟩), v] 42 (0, 0)) := by
    rw [hgrow.block b hlt1 (fun e => by have := (hown.lt b e.symm).1; omega)]
    exact hbk
  have d0 : w2.cell? ⟨b, 0, none⟩ = some (.pointer (some ⟨b, 0, none⟩)) := by rw [Lib.cell_of_heap hb2]; rfl
  have d1 : w2.cell? ⟨b, 1, none⟩ = some v := by rw [Lib.cell_of_heap hb2]; rfl
  have f1 : w2.frozen? ⟨b, 1, none⟩ = false := Lib.frozen_of_heap hb2 1
  obtain ⟨ao, n', cap, rfl⟩ : ∃ ao n' cap, v' = .slice ao n' cap := by
    rcases hown'.2 with ⟨hv, _⟩ | ⟨g, cap, cur, hv, _⟩
    · exact ⟨_, _, _, hv⟩
    · exact ⟨_, _, _, hv⟩
  have G2 := hgrow.size
  go_wp2
  go_ret
  refine ⟨rfl, bld_put (bs' := bs ++ [.int .u8 (c.toNat : Int)]) hlt (by omega) (.inr rfl) hb2 (by simpa using hown'), ?_⟩
  exact (hb1.trans (bf_grown hgrow hown (by omega) (Nat.le_refl _))).trans (bf_set w2 1 _)

set_option maxHeartbeats 2000000 in
set_option maxRecDepth 100000 in
theorem bldStr_any (B b : Nat) (bs : List Value) (s : ByteArray) (w : World) (h : Bld B b bs w) (hlen : bs.length + s.size ≤ 140737488355328) :
    Calls Tryd.prog 15 #[.pointer (some ⟨b, 0, none⟩), .string s] w fun e w' => e = .returned (.tuple #[.int .i64 s.size, .nilIface]) ∧ Bld B b (bs ++ Lib.strCells s) w' ∧ Bf B b w w' := by
  obtain ⟨i0, hi, hz0, hz1, hz2⟩ := info_parts info8
  have hlt := h.lt
  have hsz := h.sz
  go_enter Tryd.func15, Tryd.ntmps15
  go_wp2_with fail
  refine (bldCheck_any B b bs _ h).mono ?_
  rintro e w1 ⟨rfl, ⟨v, hbk, hown⟩, hb1⟩
  have c0 : w1.cell? ⟨b, 0, none⟩ = some (.pointer (some ⟨b, 0, none⟩)) := by rw [Lib.cell_of_heap hbk]; rfl
  have c1 : w1.cell? ⟨b, 1, none⟩ = some v := by rw [Lib.cell_of_heap hbk]; rfl
  have hz := hb1.size
  go_wp2_with (at_builtin; refine Lib.wpList_append_own_string _ rfl _ _ 40 9 rfl B 5 i0 Tryd.underlying40 Tryd.underlying9 hi hz0 hz1 hz2 _ _ _ rfl hown s rfl ?c3 ?c4 ?c5 ?_)
  case c3 => unfold maxLen; omega
  case c4 => omega
  case c5 => omega
  intro v' w2 hown' hgrow _
  have hlt1 : b < w1.heap.size := (Array.getElem?_eq_some_iff.1 hbk).1
  have hb2 : w2.heap[b]? = some (.cells #[.pointer (some ⟨b, 0, none⟩), v] 42 (0, 0)) := by
    rw [hgrow.block b hlt1 (fun e => by have := (hown.lt b e.symm).1; omega)]
    exact hbk
  have d0 : w2.cell? ⟨b, 0, none⟩ = some (.pointer (some ⟨b, 0, none⟩)) := by rw [Lib.cell_of_heap hb2]; rfl
  have d1 : w2.cell? ⟨b, 1, none⟩ = some v := by rw [Lib.cell_of_heap hb2]; rfl
  have f1 : w2.frozen? ⟨b, 1, none⟩ = false := Lib.frozen_of_heap hb2 1
  obtain ⟨ao, n', cap, rfl⟩ : ∃ ao n' cap, v' = .slice ao n' cap := by
    rcases hown'.2 with ⟨hv, _⟩ | ⟨g, cap, cur, hv, _⟩
    · exact ⟨_, _, _, hv⟩
    · exact ⟨_, _, _, hv⟩
  have G2 := hgrow.size
  go_wp2
  go_ret2
  refine ⟨rfl, bld_put (bs' := bs ++ Lib.strCells s) hlt (by omega) (.inr rfl) hb2 (by simpa [Lib.strCells_length] using hown'), ?_⟩
  exact (hb1.trans (bf_grown hgrow hown (by omega) (Nat.le_refl _))).trans (bf_set w2 1 _)

/-- a line of a group -/
def lnB (c : UInt8) (s : ByteArray) : List UInt8 := c :: (s.data.toList ++ [10])
def lnsB (c : UInt8) (l : List ByteArray) : List UInt8 := l.flatMap (lnB c)
theorem lnsB_nil (c : UInt8) : lnsB c [] = [] := rfl
theorem lnsB_next (c : UInt8) (l : List ByteArray) (k : Nat) (h : k < l.length) : lnsB c (l.take (k + 1)) = lnsB c (l.take k) ++ lnB c l[k] := by
  unfold lnsB; rw [List.take_succ_eq_append_getElem h, List.flatMap_append]; simp
theorem lnsB_len (c : UInt8) (l : List ByteArray) (h : ∀ s ∈ l, s.size ≤ 80) : (lnsB c l).length ≤ 82 * l.length := by
  unfold lnsB
  induction l with
  | nil => simp
  | cons s r ih =>
    have h1 := h s (List.mem_cons_self ..)
    have h2 := ih (fun x hx => h x (List.mem_cons_of_mem _ hx))
    rw [List.flatMap_cons, List.length_append, List.length_cons]
    have : (lnB c s).length = s.size + 2 := by
      simp only [lnB, List.length_cons, List.length_append, List.length_nil, Array.length_toList]; rfl
    omega
theorem lnB_cells (c : UInt8) (s : ByteArray) (bs : List Value) : ((bs ++ [.int .u8 (c.toNat : Int)]) ++ Lib.strCells s) ++ [.int .u8 ((10 : UInt8).toNat : Int)] = bs ++ Lib.byteCells (lnB c s) := by
  have e1 : [Value.int .u8 (c.toNat : Int)] = Lib.byteCells [c] := rfl
  have e2 : Lib.strCells s = Lib.byteCells s.data.toList := rfl
  have e3 : [Value.int .u8 ((10 : UInt8).toNat : Int)] = Lib.byteCells [10] := rfl
  rw [e1, e2, e3, List.append_assoc, List.append_assoc, ← Lib.byteCells_append, ← Lib.byteCells_append]
  rfl

set_option maxRecDepth 100000 in
set_option maxHeartbeats 4000000 in
theorem writeLines_any (B b : Nat) (bs : List Value) (c : UInt8) (p : Option Addr) (l : List ByteArray) (n cap : Nat) (w : World) (hn : n = l.length) (hp : ∀ W, Bf B b w W → Sts W p l) (hs : ∀ s ∈ l, s.size ≤ 80) (hl : l.length ≤ 1000)
    (h : Bld B b bs w) (hlen : bs.length ≤ 1000000000) :
    Calls Tryd.prog 37 #[.pointer (some ⟨b, 0, none⟩), .int .u8 (c.toNat : Int), .slice p n cap] w fun e w' => e = .returned (.tuple #[]) ∧ Bld B b (bs ++ Lib.byteCells (lnsB c l)) w' ∧ Bf B b w w' := by
  subst hn
  have HP := Lib.hid hp
  have HI := Lib.hid h
  have HS := Lib.hid hs
  clear hp h hs
  go_enter Tryd.func37, Tryd.ntmps37
  go_wp2_with fail
  go_loopw [10] (fun i wr => ∃ k : Nat, k ≤ l.length ∧ i = .int .i64 k ∧ Hid (Bld B b (bs ++ Lib.byteCells (lnsB c (l.take k))) wr) ∧ Hid (Bf B b w wr)) (fun i _ => l.length - (intOf i).toNat)
  case atStart => exact ⟨0, Nat.zero_le _, rfl, Lib.hid (by rw [List.take_zero, lnsB_nil]; simpa [Lib.byteCells] using HI.out), Lib.hid (Bf.refl _ _ _)⟩
  case round =>
    clear HI
    obtain ⟨k, hk, rfl, hI, hbel⟩ := hrel
    have b0 : (0 : Int) ≤ (k : Int) := by omega
    by_cases hlt : k < l.length
    · have g1 : decide (k < l.length) = true := by simpa using hlt
      have b1 : (k : Int) < (l.length : Int) := by omega
      obtain ⟨b', off, rfl, hb', hc⟩ := (HP.out _ hbel.out).cell hlt
      have LB : (bs ++ Lib.byteCells (lnsB c (l.take k))).length ≤ 1000082000 := by
        rw [List.length_append, Lib.byteCells_length]
        have := lnsB_len c (l.take k) (fun s hs => HS.out s (List.mem_of_mem_take hs))
        rw [List.length_take] at this
        omega
      have sz := HS.out _ (List.getElem_mem hlt)
      have NX := Lib.hid (by rw [lnB_cells, lnsB_next c l k hlt, Lib.byteCells_append, List.append_assoc] : (((bs ++ Lib.byteCells (lnsB c (l.take k))) ++ [.int .u8 (c.toNat : Int)]) ++ Lib.strCells l[k]) ++ [.int .u8 ((10 : UInt8).toNat : Int)] = bs ++ Lib.byteCells (lnsB c (l.take (k + 1))))
      obtain ⟨x, hx⟩ : ∃ x, x = l[k] := ⟨_, rfl⟩
      obtain ⟨cs, hcs⟩ : ∃ cs, cs = bs ++ Lib.byteCells (lnsB c (l.take k)) := ⟨_, rfl⟩
      rw [← hx] at hc sz NX
      rw [← hcs] at hI LB NX
      clear hx hcs
      go_wp2_with fail
      refine (bldByte_any B b cs c _ hI.out (by omega)).mono ?_
      rintro e w1 ⟨rfl, hI1, hb1⟩
      have HI1 := Lib.hid hI1
      have HB1 := Lib.hid hb1
      clear hI1 hb1
      go_wp2_with fail
      refine (bldStr_any B b _ x _ HI1.out (by rw [List.length_append]; simp; omega)).mono ?_
      rintro e w2 ⟨rfl, hI2, hb2⟩
      have HI2 := Lib.hid hI2
      have HB2 := Lib.hid hb2
      clear hI2 hb2
      go_wp2_with fail
      refine (bldByte_any B b _ 10 _ HI2.out (by rw [List.length_append, List.length_append, Lib.strCells_length]; simp; omega)).mono ?_
      rintro e w3 ⟨rfl, hI3, hb3⟩
      rw [NX.out] at hI3
      have HI3 := Lib.hid hI3
      have B3 := Lib.hid (((hbel.out.trans HB1.out).trans HB2.out).trans hb3)
      clear hI3 hb3
      go_wp2_with fail
      go_roundw
      case rel => exact ⟨k + 1, hlt, by go_num, HI3, B3⟩
      case measure => first | (simp [intOf]; done) | (simp [intOf]; omega)
    · have g1 : decide (k < l.length) = false := by simpa using hlt
      have hk' : l.take k = l := List.take_of_length_le (by omega)
      rw [hk'] at hI
      go_wp2_with fail
      go_end0
      exact ⟨rfl, hI.out, hbel.out⟩

set_option maxHeartbeats 4000000 in
theorem growthOf_any (p : Option Addr) (hs : List Tp.H) (n cap : Nat) (w : World) (hn : n = hs.length) (hp : Ptc w p hs) (hl : hs.length ≤ 1000) (hv : ∀ h ∈ hs, h.old.length ≤ 120 ∧ h.new.length ≤ 120) :
    Calls Tryd.prog 14 #[.slice p n cap] w (BPost (.int .i64 (Tp.gr hs)) w) := by
  subst hn
  have HP := Lib.hid hp
  have HV := Lib.hid hv
  clear hp hv
  go_enter Tryd.func14, Tryd.ntmps14
  go_wp2_with fail
  go_loopw [3, 8] (fun s i wr => ∃ k : Nat, k ≤ hs.length ∧ i = .int .i64 k ∧ s = .int .i64 (Tp.gr (hs.take k)) ∧ Hid (Below w.heap.size w wr)) (fun _ i _ => hs.length - (intOf i).toNat)
  case atStart => exact ⟨0, Nat.zero_le _, rfl, by simp [Tp.gr], Lib.hid (Below.refl _ _)⟩
  case round =>
    obtain ⟨k, hk, rfl, rfl, hB⟩ := hrel
    have b0 : (0 : Int) ≤ (k : Int) := by omega
    by_cases hlt : k < hs.length
    · have g1 : decide (k < hs.length) = true := by simpa using hlt
      have b1 : (k : Int) < (hs.length : Int) := by omega
      obtain ⟨b, off, rfl, hbb, ⟨o1, o2, o3⟩, ⟨n1, n2, n3⟩, c0, c1, c2, r1, r2⟩ := (HP.out.mono hB.out).cell hlt
      have l1 := r1.len
      have l2 := r2.len
      dsimp only at l1 l2
      subst l1 l2
      simp only [sv] at c1 c2
      have q1 := HV.out hs[k] (List.getElem_mem _)
      have GB := Tp.gr_bound (hs.take k) (fun h hh => HV.out h (List.mem_of_mem_take hh))
      rw [List.length_take, Nat.min_eq_left hk] at GB
      have GN := Lib.hid (Tp.gr_next hs k hlt)
      have w1 : IntKind.i64.wrap ((hs[k].new.length : Int) - (hs[k].old.length : Int)) = (hs[k].new.length : Int) - (hs[k].old.length : Int) := IntWalk.i64_in _ (by omega)
      have w2 : IntKind.i64.wrap (Tp.gr (hs.take k) + ((hs[k].new.length : Int) - (hs[k].old.length : Int))) = Tp.gr (hs.take k) + ((hs[k].new.length : Int) - (hs[k].old.length : Int)) := IntWalk.i64_in _ (by omega)
      have HB2 := Lib.hid (up_alloc hB.out (.cells #[.int .i64 hs[k].at', .slice o1 hs[k].old.length o3, .slice n1 hs[k].new.length n3] 46 (0, 0)))
      clear GB r1 r2
      go_wp2_with fail
      go_roundw
      case rel => exact ⟨k + 1, hlt, by go_num, by rw [GN.out], HB2⟩
      case measure => first | (simp [intOf]; done) | (simp [intOf]; omega)
    · have g1 : decide (k < hs.length) = false := by simpa using hlt
      obtain rfl : k = hs.length := by omega
      rw [List.take_length]
      go_wp2_with fail
      go_ret
      exact ⟨rfl, hB.out⟩
end Go.Proofs.YtcheggdfcdokiaaDoor
