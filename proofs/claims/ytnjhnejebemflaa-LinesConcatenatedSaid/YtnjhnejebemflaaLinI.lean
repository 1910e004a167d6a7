/-
  The iterator of strings.Lines: its rounds, over whatever invariant abides its steps.
-/
import Derived.Test.YtnjhnejebemflaaLinG
import Derived.Test.YtnjhnejebemflaaRng
import Derived.Shelf.Abstract
import Derived.Shelf.RegionOpen
import Derived.OwnWalkIn
import Derived.TacticsInMore
import Derived.LoopNIn
import Derived.LoopIn
namespace Go.Proofs.Ytnjhnejebemflaa
open Go.RowKit Go.Shelf
attribute [local go_sem] Oper.semAt_some

/-- a piece without its newline -/
def tr (x : ByteArray) : ByteArray := Lin.mk (Lib.trimSuffix x.data.toList [10])
theorem tr_line (a : List UInt8) : Lib.trimSuffix (a ++ [10]) [10] = a := by
  unfold Lib.trimSuffix Lib.hasSuffix
  rw [if_pos (by rw [List.isSuffixOf_iff_suffix]; exact ⟨a, rfl⟩)]
  simp
theorem tr_free (a : List UInt8) (h : (10 : UInt8) ∉ a) : Lib.trimSuffix a [10] = a := by
  unfold Lib.trimSuffix Lib.hasSuffix
  rw [if_neg]
  rw [List.isSuffixOf_iff_suffix]
  rintro ⟨t, e⟩
  exact h (by rw [← e]; simp)

/-- how far the iterator has come -/
structure Come (text : ByteArray) (pre : List ByteArray) (rest : ByteArray) : Prop where
  eq : Lin.sl text = pre.map tr ++ Lin.sl rest
  len : pre.length + rest.size ≤ text.size
theorem Come.start (text : ByteArray) : Come text [] text := ⟨by simp, by simp⟩
theorem get_at {l : List UInt8} {c : UInt8} {i : Nat} (hi : i < l.length) (hs : l = l.take i ++ c :: l.drop (i + 1)) : l[i] = c := by
  have h : l[i]? = (l.take i ++ c :: l.drop (i + 1))[i]? := by rw [← hs]
  rw [List.getElem?_append_right (by simp; omega), List.getElem?_eq_getElem hi, List.length_take, Nat.min_eq_left (by omega), Nat.sub_self] at h
  simpa using h
theorem Come.line {text rest : ByteArray} {pre : List ByteArray} (h : Come text pre rest) (i : Nat) (hi : i < rest.size) (hs : rest.data.toList = rest.data.toList.take i ++ 10 :: rest.data.toList.drop (i + 1)) (hn : (10 : UInt8) ∉ rest.data.toList.take i) :
    Come text (pre ++ [rest.extract 0 (i + 1)]) (rest.extract (i + 1) rest.size) ∧ pre.length + (rest.extract (i + 1) rest.size).size + (rest.extract 0 (i + 1)).size ≤ text.size ∧ (rest.extract (i + 1) rest.size).size < rest.size := by
  have hl := dat_len rest
  have hg := get_at (by omega) hs
  have e1 : (rest.extract 0 (i + 1)).data.toList = rest.data.toList.take i ++ [10] := by
    rw [ext_dat, List.drop_zero, List.take_succ_eq_append_getElem (by omega), hg]
  have e2 : (rest.extract (i + 1) rest.size).data.toList = rest.data.toList.drop (i + 1) := by
    rw [ext_dat, List.take_of_length_le (by omega)]
  have l1 : (rest.extract 0 (i + 1)).size = i + 1 := by rw [← dat_len, e1]; simp; omega
  have l2 : (rest.extract (i + 1) rest.size).size = rest.size - (i + 1) := by rw [← dat_len, e2, List.length_drop]; omega
  refine ⟨⟨?_, ?_⟩, ?_, ?_⟩
  · rw [h.eq, List.map_append, List.append_assoc]
    congr 1
    unfold Lin.sl
    rw [e2]
    conv => lhs; rw [hs]
    rw [Lin.sp_line _ _ hn, List.map_cons, List.map_singleton, List.singleton_append]
    unfold tr
    rw [e1, tr_line]
  · have := h.len; rw [l2]; simp; omega
  · have := h.len; rw [l1, l2]; omega
  · rw [l2]; omega
theorem Come.last {text rest : ByteArray} {pre : List ByteArray} (h : Come text pre rest) (h0 : 0 < rest.size) (hn : (10 : UInt8) ∉ rest.data.toList) :
    Come text (pre ++ [rest]) ByteArray.empty ∧ pre.length + (ByteArray.empty).size + rest.size ≤ text.size := by
  have hl := dat_len rest
  refine ⟨⟨?_, ?_⟩, ?_⟩
  · rw [h.eq, List.map_append, List.append_assoc]
    congr 1
    unfold Lin.sl
    rw [Lin.sp_last _ hn (by intro e; rw [e] at hl; simp at hl; omega)]
    simp [Lin.sp, Lin.spA, tr, tr_free _ hn]
  · have := h.len; simp; omega
  · have := h.len; simp; omega
theorem Come.done {text rest : ByteArray} {pre : List ByteArray} (h : Come text pre rest) (h0 : rest.size = 0) : pre.map tr = Lin.sl text := by
  have hl := dat_len rest
  have e : rest.data.toList = [] := List.length_eq_zero_iff.1 (by omega)
  rw [h.eq]; unfold Lin.sl; rw [e]; simp [Lin.sp, Lin.spA]

/-- between two rounds: the caller's I, and the iterator's own variable -/
structure Bx (I : List ByteArray → World → Prop) (bn : Nat) (s : List ByteArray × ByteArray) (W : World) : Prop where
  i : I s.1 W
  c : W.cell? ⟨bn, 0, none⟩ = some (.string s.2)
  f : W.frozen? ⟨bn, 0, none⟩ = false
def Yl (N : Nat) (s : List ByteArray × ByteArray) (x : ByteArray) : Prop := s.1.length + s.2.size + x.size ≤ N ∧ 0 < x.size
def restOf (bn : Nat) (W : World) : Nat := match W.cell? ⟨bn, 0, none⟩ with | some (.string r) => r.size | _ => 0

theorem ext_one (r : ByteArray) (i : Nat) (h : i < r.size) : 0 < (r.extract 0 (i + 1)).size := by
  have hl := dat_len r
  rw [← dat_len, ext_dat, List.drop_zero, List.length_take]; omega
theorem idx_any (s : ByteArray) (w : World) : Calls Try.prog 33 #[.string s, .int .u8 10] w fun e w' => e = .returned (.int .i64 (Lib.indexByte s.data.toList 10)) ∧ w = w' :=
  (Try.strings_IndexByte s 10 w).mono fun _ _ h => ⟨h.1, h.2.symm⟩

set_option maxRecDepth 100000 in
set_option maxHeartbeats 4000000 in
theorem lines_iter (n : Nat) (text : ByteArray) (ht : text.size ≤ 4096) (bn : Nat) (I : List ByteArray → World → Prop)
    (hset : ∀ pre W v, I pre W → I pre (W.setCell ⟨bn, 0, none⟩ v)) (hdrew : ∀ pre W, I pre W → I pre W.drew) :
    Rng.Iter n Try.prog 32 #[.pointer (some ⟨bn, 0, none⟩)] (fun x : ByteArray => #[.string x]) (fun s x => (s.1 ++ [x], s.2)) (Yl 4096) (Bx I bn) (fun s => s.1.map tr = Lin.sl text) ([], text) := by
  intro l R W hR hRW hJ hY
  have HR := Lib.hid hR
  have HY := Lib.hid hY
  have HS := Lib.hid hset
  have HD := Lib.hid hdrew
  clear hR hY hset hdrew
  refine callsIn_of_wp Try.func32 rfl trivial ?_ rfl
  simp only [Try.ntmps32, List.size_toArray, List.length_cons, List.length_nil, Nat.reduceAdd, Nat.reduceSub, Array.replicate_succ, Array.replicate_zero, List.push_toArray, List.append_toArray, List.nil_append, List.cons_append]
  gi_wp2
  gi_loopw [3, 4] (fun _ _ wr => ∃ (pre : List ByteArray) (rest : ByteArray), Bx I bn (pre, rest) wr ∧ R wr ∧ Hid (Come text pre rest)) (fun _ _ wr => restOf bn wr)
  case atStart => exact ⟨[], text, hJ, hRW, Lib.hid (Come.start text)⟩
  case round =>
    obtain ⟨pre, rest, hB, hRr, hC⟩ := hrel
    have hc := hB.c
    have hf := hB.f
    dsimp only at hc
    have HB := Lib.hid hB
    clear hB
    have hrs : rest.size ≤ 4096 := by have := hC.out.len; omega
    by_cases h0 : rest.size = 0
    · have g0 : decide (0 < rest.size) = false := by rw [decide_eq_false_iff_not]; omega
      have hd := Lib.hid (hC.out.done h0)
      clear h0
      gi_wp2
      go_end0
      exact ⟨⟨_, rfl⟩, hRr, (pre, rest), hd.out, HB.out⟩
    · have g0 : decide (0 < rest.size) = true := by rw [decide_eq_true_iff]; omega
      have hlr := Lib.hid (dat_len rest)
      by_cases h1 : 0 ≤ Lib.indexByte rest.data.toList 10
      · obtain ⟨i, hi, hil, hs, hn⟩ := idx_some h1
        rw [hlr.out] at hil
        have hL := Lib.hid (hC.out.line i hil hs hn)
        have hI := Lib.hid hi
        clear hi hs hn h1
        have b0 : (0 : Int) ≤ (i : Int) := by omega
        have b1 : (i : Int) + 1 ≤ (rest.size : Int) := by omega
        gi_wp2_with fail
        refine ⟨trivial, (fun h => by cases h), ?_⟩
        refine (callsIn_wide.2 (idx_any rest _)).mono ?_
        rintro e w' ⟨rfl, rfl⟩
        rw [hI.out]
        gi_wp2
        gi_region
        gi_wp2
        obtain ⟨fn, tmps, assign, body, hy, hRd⟩ := HY.out (pre, rest.extract (i + 1) rest.size) (rest.extract 0 (i + 1)) ((wr.setCell ⟨bn, 0, none⟩ (.string (rest.extract (i + 1) rest.size))).drew) ⟨Nat.le_trans hL.out.2.1 ht, ext_one rest i hil⟩
          (HR.out _ _ hRr ((KeepsOthers.setCell _ _ _).trans (KeepsOthers.drew _))) ⟨HD.out _ _ (HS.out _ _ _ HB.out.i), World.cell?_setCell_same _ _ _ HB.out.c, by show (wr.setCell _ _).frozen? _ = false; rw [World.frozen?_setCell]; exact HB.out.f⟩
        gi_wp2
        refine ⟨(fun h => by cases h), hRd.mono ?_⟩
        rintro e W' ⟨rfl, hR', hB'⟩
        gi_wp2
        go_roundw
        case rel => exact ⟨_, _, hB', hR', Lib.hid hL.out.1⟩
        case measure =>
          have hc' := hB'.c
          simp only [restOf, hc', hc]
          exact hL.out.2.2
      · have hn := idx_none (Int.not_le.1 h1)
        have hL := Lib.hid (hC.out.last (Nat.pos_of_ne_zero h0) hn)
        obtain ⟨z, hz⟩ : ∃ z, z = Lib.indexByte rest.data.toList 10 := ⟨_, rfl⟩
        have hz0 : z < 0 := by omega
        have HZ := Lib.hid hz
        have h0' : 0 < rest.size := by omega
        clear hz hn h1 h0
        gi_wp2_with fail
        refine ⟨trivial, (fun h => by cases h), ?_⟩
        refine (callsIn_wide.2 (idx_any rest _)).mono ?_
        rintro e w' ⟨rfl, rfl⟩
        rw [← HZ.out]
        gi_wp2
        obtain ⟨fn, tmps, assign, body, hy, hRd⟩ := HY.out (pre, ⟨#[]⟩) rest (wr.setCell ⟨bn, 0, none⟩ (.string ⟨#[]⟩)) ⟨Nat.le_trans hL.out.2 ht, h0'⟩
          (HR.out _ _ hRr (KeepsOthers.setCell _ _ _)) ⟨HS.out _ _ _ HB.out.i, World.cell?_setCell_same _ _ _ HB.out.c, by rw [World.frozen?_setCell]; exact HB.out.f⟩
        gi_wp2
        refine ⟨(fun h => by cases h), hRd.mono ?_⟩
        rintro e W' ⟨rfl, hR', hB'⟩
        gi_wp2
        go_roundw
        case rel => exact ⟨_, _, hB', hR', Lib.hid hL.out.1⟩
        case measure =>
          have hc' := hB'.c
          simp only [restOf, hc', hc]
          exact h0'
end Go.Proofs.Ytnjhnejebemflaa
