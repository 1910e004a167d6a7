/-
  strings.Builder as package lines uses it; lines.Join and the reference's Join, walked.
-/
import Derived.Test.YtnjhnejebemflaaLinD
import Derived.Lib.Builder
namespace Go.Proofs.Ytnjhnejebemflaa
open Go.RowKit

set_option maxHeartbeats 1000000 in
set_option maxRecDepth 100000 in
theorem copyCheck_used (b : Nat) (w : World) (h0 : w.cell? ⟨b, 0, none⟩ = some (.pointer (some ⟨b, 0, none⟩))) :
    Calls Try.prog 35 #[.pointer (some ⟨b, 0, none⟩)] w fun e w' => e = .returned (.tuple #[]) ∧ w' = w := by
  have hsz : (Try.prog.info? 49).map (·.size) = some 2 := by kernel_rfl
  obtain ⟨j, hj, _⟩ := Option.map_eq_some_iff.1 hsz
  go_enter Try.func35, Try.ntmps35
  go_wp2
  rw [Lib.run_neq_ptr_same w _ Try.underlying47 hj]
  go_wp2
  go_end0
  exact ⟨rfl, rfl⟩

set_option maxHeartbeats 1000000 in
set_option maxRecDepth 100000 in
theorem copyCheck_fresh (b : Nat) (w : World) (h0 : w.cell? ⟨b, 0, none⟩ = some (.pointer none)) (hsh : w.shape? b = some (49, 2)) (hfz : w.frozen? ⟨b, 0, none⟩ = false) :
    Calls Try.prog 35 #[.pointer (some ⟨b, 0, none⟩)] w fun e w' => e = .returned (.tuple #[]) ∧ w' = w.setCell ⟨b, 0, none⟩ (.pointer (some ⟨b, 0, none⟩)) := by
  have hsz : (Try.prog.info? 49).map (·.size) = some 2 := by kernel_rfl
  obtain ⟨j, hj, hjs⟩ := Option.map_eq_some_iff.1 hsz
  go_enter Try.func35, Try.ntmps35
  go_wp2
  rw [Lib.run_to_unsafe w ⟨b, 0, none⟩ Try.underlying47 Try.underlying68 hj (by rw [hjs]; decide) hsh (Nat.zero_lt_succ 1)]
  simp only [Result.andThen]
  rw [Oper.upon_value]
  go_wp2
  rw [run_callFunc_extern Try.func42 (by kernel_rfl) (by kernel_rfl) (by kernel_rfl) (e := Extern.AbiNoEscape.same) (by kernel_rfl)]
  rw [Lib.run_noEscape]
  simp only [Result.andThen]
  rw [Oper.upon_value]
  go_wp2
  rw [Lib.run_from_unsafe w ⟨b, 0, none⟩ Try.underlying68 Try.underlying47 hj hsh (by kernel_rfl)]
  simp only [Result.andThen]
  rw [Oper.upon_value]
  go_wp2
  go_end0
  exact ⟨rfl, rfl⟩

theorem copyCheck_any (B b : Nat) (bs : List Value) (w : World) (h : Lib.IsBuilder 49 5 B b bs w) :
    Calls Try.prog 35 #[.pointer (some ⟨b, 0, none⟩)] w fun e w' => e = .returned (.tuple #[]) ∧ (Lib.BuilderAt 49 5 B b (.pointer (some ⟨b, 0, none⟩)) bs w' ∧ Below B w w') := by
  rcases h with h | h
  · refine (copyCheck_fresh b w h.cell0 h.shape h.frozen0).mono ?_
    rintro e w' ⟨rfl, rfl⟩
    exact ⟨rfl, h.used _, (Below.refl B w).setCell (p := ⟨b, 0, none⟩) h.1 _⟩
  · refine (copyCheck_used b w h.cell0).mono ?_
    rintro e w' ⟨rfl, rfl⟩
    exact ⟨rfl, h, Below.refl B _⟩

set_option maxHeartbeats 2000000 in
set_option maxRecDepth 100000 in
theorem writeString_any (B b : Nat) (bs : List Value) (s : ByteArray) (w : World) (h : Lib.IsBuilder 49 5 B b bs w) (hlen : bs.length + s.size ≤ 140737488355328) (hBw : B ≤ w.heap.size) :
    Calls Try.prog 24 #[.pointer (some ⟨b, 0, none⟩), .string s] w fun e w' => e = .returned (.tuple #[.int .i64 s.size, .nilIface]) ∧ (Lib.IsBuilder 49 5 B b (bs ++ Lib.strCells s) w' ∧ Below B w w') := by
  obtain ⟨i0, hi, hz0, hz1, hz2⟩ := info_parts info8
  go_enter Try.func24, Try.ntmps24
  go_wp2_with fail
  refine (copyCheck_any B b bs _ h).mono ?_
  rintro e w1 ⟨rfl, h1, hb1⟩
  obtain ⟨hB, v, hbk, hown, hne⟩ := h1
  have c0 : w1.cell? ⟨b, 0, none⟩ = some (.pointer (some ⟨b, 0, none⟩)) := by rw [Lib.cell_of_heap hbk]; rfl
  have c1 : w1.cell? ⟨b, 1, none⟩ = some v := by rw [Lib.cell_of_heap hbk]; rfl
  have hz := hb1.size
  go_wp2_with (at_builtin; refine Lib.wpList_append_own_string _ rfl _ _ 41 9 rfl B 5 i0 Try.underlying41 Try.underlying9 hi hz0 hz1 hz2 _ _ _ rfl hown s rfl ?c3 ?c4 ?c5 ?_)
  case c3 => unfold maxLen; omega
  case c4 => omega
  case c5 => omega
  intro v' w2 hown' hgrow _
  have hlt : b < w1.heap.size := (Array.getElem?_eq_some_iff.1 hbk).1
  have hb2 : w2.heap[b]? = some (.cells #[.pointer (some ⟨b, 0, none⟩), v] 49 (0, 0)) := by
    rw [hgrow.block b hlt (fun e => hne e.symm)]
    exact hbk
  have d0 : w2.cell? ⟨b, 0, none⟩ = some (.pointer (some ⟨b, 0, none⟩)) := by rw [Lib.cell_of_heap hb2]; rfl
  have d1 : w2.cell? ⟨b, 1, none⟩ = some v := by rw [Lib.cell_of_heap hb2]; rfl
  have f1 : w2.frozen? ⟨b, 1, none⟩ = false := Lib.frozen_of_heap hb2 1
  obtain ⟨ao, n', cap, rfl⟩ : ∃ ao n' cap, v' = .slice ao n' cap := by
    rcases hown'.2 with ⟨hv, _⟩ | ⟨g, cap, cur, hv, _⟩
    · exact ⟨_, _, _, hv⟩
    · exact ⟨_, _, _, hv⟩
  go_wp2
  go_ret2
  refine ⟨rfl, .inr ?_, ?_⟩
  · exact Lib.BuilderAt.put (T := 49) (e := 5) hB hb2 (bs' := bs ++ Lib.strCells s) (by simpa [Lib.strCells_length] using hown') (by decide)
  · exact (hb1.grown hgrow (by omega) (fun k hk => (hown.lt k hk).1)).setCell (p := ⟨b, 1, none⟩) hB _

theorem builderLen_any (B b : Nat) (bs : List Value) (w : World) (h : Lib.IsBuilder 49 5 B b bs w) :
    Calls Try.prog 25 #[.pointer (some ⟨b, 0, none⟩)] w fun e w' => e = .returned (.int .i64 bs.length) ∧ w = w' :=
  (Try.Builder_Len B b bs w h).mono fun _ _ h => ⟨h.1, h.2.symm⟩

theorem j_bad {l : List ByteArray} (h : ¬ Lin.vC l = 0) : Lin.jS l = ByteArray.empty ∧ Lin.jC l = Lin.vC l ∧ Lin.jI l = Lin.vI l := by
  have hc : Lin.jC l = Lin.vC l := if_neg h
  exact ⟨by rw [Lin.jS, hc, if_neg h], hc, if_neg h⟩
theorem j_long {l : List ByteArray} (h : Lin.vC l = 0) (h' : 4096 < (Lin.jl l).size) : Lin.jS l = ByteArray.empty ∧ Lin.jC l = 10 ∧ Lin.jI l = -1 := by
  have hc : Lin.jC l = 10 := by rw [Lin.jC, if_pos h, if_pos h']
  exact ⟨by rw [Lin.jS, hc, if_neg (by decide)], hc, by rw [Lin.jI, if_pos h, if_pos h']⟩
theorem j_ok {l : List ByteArray} (h : Lin.vC l = 0) (h' : ¬ 4096 < (Lin.jl l).size) : Lin.jS l = Lin.jl l ∧ Lin.jC l = 0 ∧ Lin.jI l = 0 := by
  have hc : Lin.jC l = 0 := by rw [Lin.jC, if_pos h, if_neg h']
  exact ⟨by rw [Lin.jS, hc, if_pos rfl], hc, by rw [Lin.jI, if_pos h, if_neg h']⟩
def jb (l : List ByteArray) : List UInt8 := Lin.jn (l.map (fun s => s.data.toList))
theorem jb_size (l : List ByteArray) : (jb l).length = (Lin.jl l).size := (Lin.mk_size _).symm
theorem jb_step (l : List ByteArray) (k : Nat) (h : k < l.length) : Lib.byteCells (jb (l.take k)) ++ Lib.strCells l[k] ++ Lib.strCells ⟨#[10]⟩ = Lib.byteCells (jb (l.take (k + 1))) := by
  unfold jb; rw [Lin.jn_take l k h, Lib.byteCells_append, Lib.byteCells_append]; rfl

set_option maxHeartbeats 4000000 in
theorem join_any (p : Option Addr) (l : List ByteArray) (n cap : Nat) (w : World) (hn : n = l.length) (hp : Sts w p l) :
    Calls Try.prog 11 #[.slice p n cap] w (BPost (.tuple #[.string (Lin.jS l), .agg #[.int .i64 (Lin.jC l), .int .i64 (Lin.jI l)]]) w) := by
  subst hn
  have hl := hp.len
  have HP := Lib.hid hp
  clear hp
  go_enter Try.func11, Try.ntmps11
  go_wp2_with fail
  refine (validate_any _ l _ _ _ rfl (HP.out.mono (up_alloc (Below.refl _ _) _))).mono ?_
  rintro e w1 ⟨rfl, hb1⟩
  have FA := (Flt.new w 0 0 24).up hb1
  have HA := Lib.hid FA
  have u1 := up_call (up_alloc (Below.refl w.heap.size w) _) hb1
  by_cases h1 : Lin.vC l = 0
  · have ht := Lib.hid (Lin.vC_zero h1)
    have h1' := Lib.hid h1
    have e2 := Lin.vI_zero h1
    have hn1 := ht.out.1
    rw [h1, e2]
    clear h1 e2
    obtain ⟨a0, a1, a2, a3, a4⟩ := FA
    have uA := up_alloc u1 (.cells #[.int .i64 0, .int .i64 0] 24 (0, 0))
    have hz1 := u1.size
    go_wp2_with fail
    go_loopw [16] (fun i wr => ∃ k : Nat, k ≤ l.length ∧ i = .int .i64 k ∧ Lib.IsBuilder 49 5 (w1.heap.size + 1) (w1.heap.size + 1) (Lib.byteCells (jb (l.take k))) wr ∧ Below (w1.heap.size + 1) (w1.alloc (.cells #[.int .i64 0, .int .i64 0] 24 (0, 0))) wr) (fun i _ => l.length - (intOf i).toNat)
    case atStart =>
      refine ⟨0, Nat.zero_le _, rfl, ?_, (Below.refl _ _).alloc (by simp) _⟩
      have := Lib.fresh_isBuilder 49 5 (w1.alloc (.cells #[.int .i64 0, .int .i64 0] 24 (0, 0)))
      rw [World.size_alloc] at this
      exact this
    case round =>
      obtain ⟨k, hk, rfl, hI, hbel⟩ := hrel
      have hzr := hbel.size
      rw [World.size_alloc] at hzr
      have ur := uA.trans (hbel.mono (by omega))
      have hbd := Lin.jn_bd (l.take k) (fun s hs => Lin.txt_size ht.out s (List.mem_of_mem_take hs))
      rw [List.length_take] at hbd
      have hlb : (Lib.byteCells (jb (l.take k))).length ≤ 9720 := by rw [Lib.byteCells_length]; unfold jb; omega
      have HI := Lib.hid hI
      clear hI hbd
      by_cases hlt : k < l.length
      · obtain ⟨b, off, rfl, hb, hc⟩ := (HP.out.mono ur).cell hlt
        have hs := Lin.txt_size ht.out _ (List.getElem_mem hlt)
        have hst := Lib.hid (jb_step l k hlt)
        obtain ⟨x, hx⟩ : ∃ x, x = l[k] := ⟨_, rfl⟩
        rw [← hx] at hc hs hst
        clear hx
        go_wp2_with fail
        refine (writeString_any _ _ _ x _ HI.out (by omega) (by omega)).mono ?_
        rintro e w2 ⟨rfl, hI2, hb2⟩
        have HI2 := Lib.hid hI2
        have hz2 := hb2.size
        clear hI2
        go_wp2_with fail
        refine (writeString_any _ _ _ ⟨#[10]⟩ _ HI2.out (by rw [List.length_append, Lib.strCells_length]; show _ + 1 ≤ _; omega) (by omega)).mono ?_
        rintro e w3 ⟨rfl, hI3, hb3⟩
        rw [hst.out] at hI3
        have HI3 := Lib.hid hI3
        clear hI3
        go_wp2_with fail
        go_roundw
        case rel => exact ⟨k + 1, by omega, by go_num, HI3.out, (hbel.trans hb2).trans hb3⟩
        case measure => simp [intOf]; omega
      · have hk' : l.take k = l := List.take_of_length_le (by omega)
        rw [hk'] at HI hlb
        clear hk'
        have hsz := Lib.hid (jb_size l)
        have FR := (((HA.out.alloc (.cells #[.int .i64 0, .int .i64 0] 24 (0, 0)))).mono hbel (by have := HA.out.lt; omega))
        have HR := Lib.hid FR
        obtain ⟨c0, c1, c2, c3, c4⟩ := FR
        by_cases h2 : 4096 < (Lin.jl l).size
        · have E := Lib.hid (j_long h1'.out h2)
          have g2 : decide ((4096 : Int) < ((Lib.byteCells (jb l)).length : Int)) = true := by rw [decide_eq_true_iff, Lib.byteCells_length, hsz.out]; omega
          clear h2
          obtain ⟨d0, d1, -, -, -⟩ := HR.out.set2 10 (-1)
          go_wp2_with fail
          refine (builderLen_any _ _ _ _ HI.out).mono ?_
          rintro e w' ⟨rfl, rfl⟩
          go_wp2_with fail
          refine bodyPost_ret (v := .tuple #[.string ByteArray.empty, .agg #[.int .i64 10, .int .i64 (-1)]]) (by simp [results, Try.results11, go_sem, d0, d1]; rfl) rfl ⟨by rw [E.out.1, E.out.2.1, E.out.2.2], ?_⟩
          exact (ur.setCell (Nat.le_refl _) _).setCell (Nat.le_refl _) _
        · have E := Lib.hid (j_ok h1'.out h2)
          have g2 : decide ((4096 : Int) < ((Lib.byteCells (jb l)).length : Int)) = false := by rw [decide_eq_false_iff_not, Lib.byteCells_length, hsz.out]; omega
          clear h2
          go_wp2_with fail
          refine (builderLen_any _ _ _ _ HI.out).mono ?_
          rintro e w' ⟨rfl, rfl⟩
          go_wp2_with fail
          refine (Try.Builder_String_any _ _ _ _ HI.out (by omega)).mono ?_
          rintro e w2 ⟨rfl, hb2⟩
          have FR2 := HR.out.mono hb2 (by have := HA.out.lt; omega)
          obtain ⟨d0, d1, -, -, -⟩ := FR2.set2 0 0
          obtain ⟨x0, x1, x2, x3, x4⟩ := FR2
          go_wp2_with fail
          refine bodyPost_ret (v := .tuple #[.string (Lin.jl l), .agg #[.int .i64 0, .int .i64 0]]) (by simp [results, Try.results11, go_sem, d0, d1]; rfl) rfl ⟨by rw [E.out.1, E.out.2.1, E.out.2.2], ?_⟩
          exact ((ur.trans (hb2.mono (by omega))).setCell (Nat.le_refl _) _).setCell (Nat.le_refl _) _
  · have E := Lib.hid (j_bad h1)
    obtain ⟨a0, a1, a2, a3, a4⟩ := FA
    obtain ⟨d0, d1, -, -, -⟩ := ((HA.out.set2 (Lin.vC l) (Lin.vI l)).alloc (.cells #[.int .i64 (Lin.vC l), .int .i64 (Lin.vI l)] 24 (0, 0)))
    go_wp2_with fail
    go_region
    go_wp2_with fail
    refine bodyPost_ret (v := .tuple #[.string ByteArray.empty, .agg #[.int .i64 (Lin.vC l), .int .i64 (Lin.vI l)]]) (by simp [results, Try.results11, go_sem, d0, d1]; rfl) rfl ⟨by rw [E.out.1, E.out.2.1, E.out.2.2], ?_⟩
    (repeat' (first | (with_reducible exact Below.refl _ _) | (with_reducible assumption) | (with_reducible refine below_drewN ?_ _) | (with_reducible refine Below.setCell ?_ ?_ _) | (with_reducible refine Below.alloc ?_ ?_ _) | (with_reducible refine Below.drew ?_) | go_size))
end Go.Proofs.Ytnjhnejebemflaa
