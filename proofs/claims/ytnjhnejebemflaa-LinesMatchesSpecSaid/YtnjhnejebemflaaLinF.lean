/-
  The reference's Join, Pieces and Split, walked.
-/
import Derived.Test.YtnjhnejebemflaaLinE
namespace Go.Proofs.Ytnjhnejebemflaa
open Go.RowKit

theorem js_step (l : List ByteArray) (k : Nat) (h : k < l.length) : Lin.jl (l.take k) ++ l[k] ++ ⟨#[10]⟩ = Lin.jl (l.take (k + 1)) := by
  have e : ∀ a b : ByteArray, a.data.toList = b.data.toList → a = b := fun a b h => by rw [← Lin.mk_of a, h, Lin.mk_of]
  apply e
  rw [Lin.jl_data, Lin.jn_take l k h, ← Lin.jl_data]
  simp [ByteArray.data_append]

set_option maxHeartbeats 4000000 in
theorem refJoin_any (p : Option Addr) (l : List ByteArray) (n cap : Nat) (w : World) (hn : n = l.length) (hp : Sts w p l) :
    Calls Try.prog 12 #[.slice p n cap] w (BPost (.tuple #[.string (Lin.jS l), .agg #[.int .i64 (Lin.jC l), .int .i64 (Lin.jI l)]]) w) := by
  subst hn
  have hl := hp.len
  have HP := Lib.hid hp
  clear hp
  go_enter Try.func12, Try.ntmps12
  go_wp2_with fail
  refine (linesFault_any _ l _ _ _ rfl (HP.out.mono (up_alloc (Below.refl _ _) _))).mono ?_
  rintro e w1 ⟨rfl, hb1⟩
  have FA := (Flt.new w 0 0 24).up hb1
  have HA := Lib.hid FA
  have u1 := up_call (up_alloc (Below.refl w.heap.size w) _) hb1
  by_cases h1 : Lin.vC l = 0
  · have ht := Lib.hid (Lin.vC_zero h1)
    have h1' := Lib.hid h1
    have e2 := Lin.vI_zero h1
    have hn1 := ht.out.1
    rw [h1, e2]
    clear h1 e2
    obtain ⟨a0, a1, a2, a3, a4⟩ := FA
    have uA := up_alloc u1 (.cells #[.int .i64 0, .int .i64 0] 24 (0, 0))
    go_wp2_with fail
    go_loop [5, 6] (fun s i => ∃ k : Nat, k ≤ l.length ∧ i = .int .i64 k ∧ s = .string (Lin.jl (l.take k))) (fun _ i => l.length - (intOf i).toNat)
    case atStart => exact ⟨0, Nat.zero_le _, rfl, rfl⟩
    case round =>
      obtain ⟨k, hk, rfl, rfl⟩ := hrel
      have hbd := Lin.jn_bd (l.take k) (fun s hs => Lin.txt_size ht.out s (List.mem_of_mem_take hs))
      rw [List.length_take] at hbd
      have hlb : (Lin.jl (l.take k)).size ≤ 9720 := by rw [← jb_size]; unfold jb; omega
      clear hbd
      by_cases hlt : k < l.length
      · obtain ⟨b, off, rfl, hb, hc⟩ := (HP.out.mono uA).cell hlt
        have hs := Lin.txt_size ht.out _ (List.getElem_mem hlt)
        have hst := Lib.hid (js_step l k hlt)
        obtain ⟨x, hx⟩ : ∃ x, x = l[k] := ⟨_, rfl⟩
        rw [← hx] at hc hs hst
        clear hx
        go_wp2_with fail

        go_round
        case rel => exact ⟨k + 1, by omega, by go_num, by rw [← hst.out]⟩
        case measure => simp [intOf]; omega
      · have hk' : l.take k = l := List.take_of_length_le (by omega)
        rw [hk'] at hlb ⊢
        clear hk'
        by_cases h2 : 4096 < (Lin.jl l).size
        · have E := Lib.hid (j_long h1'.out h2)
          have g2 : decide ((4096 : Int) < ((Lin.jl l).size : Int)) = true := by rw [decide_eq_true_iff]; omega
          clear h2
          go_wp2_with fail
          refine (at_any _ _ _).mono ?_
          rintro e w2 ⟨rfl, hb2⟩
          have FR := (HA.out.alloc (.cells #[.int .i64 0, .int .i64 0] 24 (0, 0))).up hb2
          have ur := up_call uA hb2
          obtain ⟨d0, d1, -, -, -⟩ := FR.set2 10 (-1)
          obtain ⟨x0, x1, x2, x3, x4⟩ := FR
          go_wp2_with fail
          refine bodyPost_ret (v := .tuple #[.string ByteArray.empty, .agg #[.int .i64 10, .int .i64 (-1)]]) (by simp [results, Try.results12, go_sem, d0, d1]; rfl) rfl ⟨by rw [E.out.1, E.out.2.1, E.out.2.2], ?_⟩
          exact (ur.setCell (Nat.le_refl _) _).setCell (Nat.le_refl _) _
        · have E := Lib.hid (j_ok h1'.out h2)
          have g2 : decide ((4096 : Int) < ((Lin.jl l).size : Int)) = false := by rw [decide_eq_false_iff_not]; omega
          clear h2
          obtain ⟨d0, d1, -, -, -⟩ := (HA.out.set2 0 0).alloc (.cells #[.int .i64 0, .int .i64 0] 24 (0, 0))
          go_wp2_with fail
          refine bodyPost_ret (v := .tuple #[.string (Lin.jl l), .agg #[.int .i64 0, .int .i64 0]]) (by simp [results, Try.results12, go_sem, d0, d1]) rfl ⟨by rw [E.out.1, E.out.2.1, E.out.2.2], ?_⟩
          (repeat' (first | (with_reducible exact Below.refl _ _) | (with_reducible assumption) | (with_reducible refine below_drewN ?_ _) | (with_reducible refine Below.setCell ?_ ?_ _) | (with_reducible refine Below.alloc ?_ ?_ _) | (with_reducible refine Below.drew ?_) | go_size))
  · have E := Lib.hid (j_bad h1)
    have g1 : (Lin.vC l != 0) = true := by simpa using h1
    obtain ⟨a0, a1, a2, a3, a4⟩ := FA
    obtain ⟨d0, d1, -, -, -⟩ := ((HA.out.set2 (Lin.vC l) (Lin.vI l)).alloc (.cells #[.int .i64 (Lin.vC l), .int .i64 (Lin.vI l)] 24 (0, 0)))
    go_wp2_with fail
    go_region
    go_wp2_with fail
    refine bodyPost_ret (v := .tuple #[.string ByteArray.empty, .agg #[.int .i64 (Lin.vC l), .int .i64 (Lin.vI l)]]) (by simp [results, Try.results12, go_sem, d0, d1]; rfl) rfl ⟨by rw [E.out.1, E.out.2.1, E.out.2.2], ?_⟩
    (repeat' (first | (with_reducible exact Below.refl _ _) | (with_reducible assumption) | (with_reducible refine below_drewN ?_ _) | (with_reducible refine Below.setCell ?_ ?_ _) | (with_reducible refine Below.alloc ?_ ?_ _) | (with_reducible refine Below.drew ?_) | go_size))

theorem ownS_nil (w : World) (base : Nat) : OwnS base w (.slice none 0 0) [] := World.ownsRow_nil _ _ _ _
theorem sts_own {base : Nat} {w : World} {v : Value} {l : List ByteArray} (h : OwnS base w v l) (hs : ∀ x ∈ l, x.size ≤ 140737488351232) (hl : l.length ≤ 281474976710656) :
    ∃ p cap, v = .slice p l.length cap ∧ Sts w p l ∧ (p = none → cap = 0) ∧ l.length ≤ cap ∧ (∀ a, p = some a → base ≤ a.block) := by
  obtain ⟨p, cap, e, h1, h2⟩ := sts_of_own h hs hl
  refine ⟨p, cap, e, h1, h2, ?_⟩
  rcases h.2 with ⟨rfl, h0⟩ | ⟨g, cap', cur, rfl, hb, hg, hn, hm, hsz, htk⟩
  · injection e with e1 _ _
    exact ⟨by omega, fun a ha => by rw [ha] at e1; cases e1⟩
  · injection e with e1 _ e3
    exact ⟨by omega, fun a ha => by rw [ha] at e1; cases e1; exact hb⟩
theorem Sts.set {w : World} {p : Option Addr} {l : List ByteArray} (h : Sts w p l) (g j : Nat) (v : Value) (hg : ∀ a, p = some a → g ≠ a.block) : Sts (w.setCell ⟨g, j, none⟩ v) p l := by
  refine ⟨h.small, h.len, h.nil', fun hn => ?_⟩
  obtain ⟨b, off, rfl, hb, hc⟩ := h.at' hn
  refine ⟨b, off, rfl, by rw [World.size_setCell]; exact hb, fun i hi => ?_⟩
  have hne := hg _ rfl
  rw [World.cell?_setCell_other (h := fun e => hne (by cases e; rfl)), hc i hi]
theorem own_keep {base : Nat} {w w' : World} {v : Value} {l : List ByteArray} (h : OwnS base w v l) (hb : w' = w) : OwnS base w' v l := by subst hb; exact h

/-- the pieces of a string -/
def pcs (s : ByteArray) : List ByteArray := (Lin.cutA [] s.data.toList).map Lin.mk
structure PAt (s : ByteArray) (base k fr : Nat) (out : List ByteArray) : Prop where
  le : fr ≤ k
  ks : k ≤ s.size
  len : out.length ≤ k
  small : ∀ x ∈ out, x.size ≤ s.size
  eq : Lin.cutA [] s.data.toList = out.map (fun s => s.data.toList) ++ Lin.cutA ((s.data.toList.take k).drop fr) (s.data.toList.drop k)
theorem PAt.start (s : ByteArray) (base : Nat) : PAt s base 0 0 [] := ⟨Nat.le_refl _, Nat.zero_le _, by simp, by simp, by simp⟩
theorem dat_len (s : ByteArray) : s.data.toList.length = s.size := by rw [Array.length_toList]; rfl
theorem ext_dat (s : ByteArray) (a b : Nat) : (s.extract a b).data.toList = (s.data.toList.take b).drop a := by
  rw [Lib.extract_data, List.drop_take]
theorem ext_size (s : ByteArray) (a b : Nat) (h : b ≤ s.size) : (s.extract a b).size ≤ s.size := by
  rw [← dat_len, ext_dat s a b, List.length_drop, List.length_take]
  have := dat_len s
  omega
theorem PAt.nl {s : ByteArray} {base k fr : Nat} {out : List ByteArray} (h : PAt s base k fr out) (hk : k < s.size) (e : s[k] = 10) : PAt s base (k + 1) (k + 1) (out ++ [s.extract fr k]) := by
  have hl := dat_len s
  refine ⟨Nat.le_refl _, hk, by have := h.len; simp; omega, ?_, ?_⟩
  · intro x hx
    rcases List.mem_append.1 hx with hx | hx
    · exact h.small x hx
    · rw [List.mem_singleton.1 hx]; exact ext_size s fr k (by omega)
  · have hd : s.data.toList.drop k = 10 :: s.data.toList.drop (k + 1) := by
      rw [List.drop_eq_getElem_cons (by omega)]
      congr 1
    rw [h.eq, hd, Lin.cutA_step_nl, List.map_append, List.append_assoc]
    congr 1
    rw [List.map_singleton, ext_dat s fr k, List.singleton_append]
    congr 2
    rw [List.drop_eq_nil_of_le (by simp; omega)]
theorem PAt.other {s : ByteArray} {base k fr : Nat} {out : List ByteArray} (h : PAt s base k fr out) (hk : k < s.size) (e : ¬ s[k] = 10) : PAt s base (k + 1) fr out := by
  have hl := dat_len s
  refine ⟨by have := h.le; omega, hk, by have := h.len; omega, h.small, ?_⟩
  have hd : s.data.toList.drop k = s[k] :: s.data.toList.drop (k + 1) := by
    rw [List.drop_eq_getElem_cons (by omega)]; rfl
  rw [h.eq, hd, Lin.cutA_step _ _ _ e]
  congr 2
  rw [List.take_succ_eq_append_getElem (by omega), List.drop_append_of_le_length (by have := h.le; simp; omega)]
  rfl
theorem PAt.done {s : ByteArray} {base fr : Nat} {out : List ByteArray} (h : PAt s base s.size fr out) : out ++ [s.extract fr s.size] = pcs s := by
  have hl := dat_len s
  unfold pcs
  have hd : s.data.toList.drop s.size = [] := List.drop_eq_nil_of_le (by omega)
  rw [h.eq, hd]
  simp only [Lin.cutA, List.map_append, List.map_singleton]
  rw [Lin.map_mk_of, ← ext_dat s fr s.size, Lin.mk_of]

def OwnPost (l : List ByteArray) (w : World) (e : Ending) (w' : World) : Prop := ∃ v, e = .returned v ∧ OwnS w.heap.size w' v l ∧ Below w.heap.size w w'

set_option maxHeartbeats 4000000 in
theorem pieces_any (s : ByteArray) (w : World) (hs : s.size ≤ 4096) : Calls Try.prog 23 #[.string s] w (OwnPost (pcs s) w) := by
  go_enter Try.func23, Try.ntmps23
  go_wp2_with fail
  go_loopw [3, 4, 5] (fun o f i wr => ∃ (k fr : Nat) (out : List ByteArray), f = .int .i64 fr ∧ i = .int .i64 k ∧ OwnS w.heap.size wr o out ∧ Hid (PAt s w.heap.size k fr out) ∧ Below w.heap.size w wr) (fun _ _ i _ => s.size - (intOf i).toNat)
  case atStart => exact ⟨0, 0, [], rfl, rfl, ownS_nil _ _, Lib.hid (PAt.start _ _), Below.refl _ _⟩
  case round =>
    obtain ⟨k, fr, out, rfl, rfl, own, hP, hbel⟩ := hrel
    have hle := hP.out.le
    have hks := hP.out.ks
    have hol := hP.out.len
    have hzr := hbel.size
    by_cases hlt : k < s.size
    · have b7 : (0 : Int) ≤ (k : Int) := by omega
      have b8 : (k : Int) < (s.size : Int) := by omega
      by_cases h10 : s[k] = 10
      · have g2 : ((s[k].toNat : Int) == 10) = true := by rw [h10]; rfl
        have hP' := Lib.hid (hP.out.nl hlt h10)
        have hx := ext_size s fr k hks
        have H := Lib.hid h10
        clear h10
        go_wp2_with (at_builtin; refine wp_appS rfl (.tmp 16) (.tmp 21) rfl w.heap.size _ out [s.extract fr k] _ _ rfl (own.alloc _) rfl (sts_one _ _ _ rfl (by omega)) (fun h => by cases h) (by simp; omega) (by simp; omega) ?_; intro v2 w2 own2 bel2)
        go_roundw
        case rel => exact ⟨k + 1, k + 1, out ++ [s.extract fr k], by go_num, by go_num, own2, hP', up_own (up_alloc hbel _) bel2⟩
        case measure => simp [intOf]; omega
      · have g2 : ((s[k].toNat : Int) == 10) = false := by
          rw [beq_eq_false_iff_ne]; intro e; apply h10; apply UInt8.toNat_inj.1; simpa using (Int.ofNat_inj.1 e)
        have hP' := Lib.hid (hP.out.other hlt h10)
        have H := Lib.hid h10
        clear h10
        go_wp2_with fail
        go_roundw
        case rel => exact ⟨k + 1, fr, out, rfl, by go_num, own, hP', hbel⟩
        case measure => simp [intOf]; omega
    · obtain rfl : k = s.size := by omega
      have hx := ext_size s fr s.size (Nat.le_refl _)
      have hd := Lib.hid hP.out.done
      go_wp2_with (at_builtin; refine wp_appS rfl (.tmp 25) (.tmp 29) rfl w.heap.size _ out [s.extract fr s.size] _ _ rfl (own.alloc _) rfl (sts_one _ _ _ rfl (by omega)) (fun h => by cases h) (by simp; omega) (by simp; omega) ?_; intro v2 w2 own2 bel2)
      go_ret
      exact ⟨_, rfl, by rw [← hd.out]; exact own2, up_own (up_alloc hbel _) bel2⟩
end Go.Proofs.Ytnjhnejebemflaa
