
/-
  slices.Clone; the program's eachHunk, walked with whatever function it is handed.
-/
import Derived.Test.YtkfloglpihbdjaaTqD
import Derived.Test.YtkfloglpihbdjaaTpE
import Derived.Test.YtkfloglpihbdjaaDfG
import Derived.Shelf.Abstract
import Derived.Lib.SliceRun
namespace Go.Proofs.Ytkfloglpihbdjaa
open Go.RowKit
set_option maxRecDepth 4000

theorem sclone_any (p : Option Addr) (l : List ByteArray) (n cap : Nat) (w : World) (hn : n = l.length) (hp : Sts w p l) (hc : p = none → cap = 0) (hl : l.length ≤ 1000000) :
    Calls Try.prog 40 #[.slice p n cap] w fun e w' => ∃ (o1 : Option Addr) (o2 o3 : Nat), e = .returned (.slice o1 o2 o3) ∧ OwnE strE w.heap.size w' (.slice o1 o2 o3) l ∧ Below w.heap.size w w' := by
  subst hn
  cases p with
  | none =>
    have e := hp.nil' rfl
    subst e
    obtain rfl := hc rfl
    go_enter Try.func40, Try.ntmps40
    have q0 := fun w => Lib.run_eql_slice_nil (P := Try.prog) w 22 9 none 0 0 0 0 Try.underlying22
    go_wp2_with fail
    go_ret
    exact ⟨none, 0, 0, rfl, ownE_nil _ _ _, Below.refl _ _⟩
  | some ad =>
    have HP := Lib.hid hp
    have E0 := Lib.hid (ownS_empty w w.heap.size w.heap.size rfl (Nat.le_refl _))
    have hbz : w.heap.size ≤ (w.alloc (.cells #[] 9 (0, 0))).heap.size := by simp
    have B0 := up_alloc (Below.refl w.heap.size w) (.cells #[] 9 (0, 0))
    have S0 := Lib.hid (hp.mono B0)
    have BH := Lib.hid B0
    have q0 := fun w => Lib.run_eql_slice_nil (P := Try.prog) w 22 9 (some ad) l.length cap 0 0 Try.underlying22
    clear hp B0 hc
    go_enter Try.func40, Try.ntmps40
    go_wp2_with (at_builtin; refine wp_appS rfl (.tmp 5) (.tmp 6) rfl w.heap.size (.slice (some ⟨w.heap.size, 0, none⟩) 0 0) [] l (some ad) cap rfl E0.out rfl S0.out (fun h => (by cases h)) (by simp; omega) hbz ?_; intro v' w' own bel)
    have OWN := Lib.hid own
    have BEL := Lib.hid (BH.out.trans bel)
    clear own bel
    go_ret
    obtain ⟨p', cp, rfl, -, -, -, -⟩ := row_of_own (ownE_ofS OWN.out)
    exact ⟨p', _, cp, rfl, ownE_ofS OWN.out, BEL.out⟩

theorem Hu.same {w w' : World} {g : Nat} {z : Int} {o n : Value} (h : Hu w g z o n) (hb : w'.heap[g]? = w.heap[g]?) (hz : w.heap.size ≤ w'.heap.size) : Hu w' g z o n :=
  ⟨by rw [World.cell?_of_block (a := ⟨g, 0, none⟩) hb, h.c0], by rw [World.cell?_of_block (a := ⟨g, 1, none⟩) hb, h.c1], by rw [World.cell?_of_block (a := ⟨g, 2, none⟩) hb, h.c2], Nat.lt_of_lt_of_le h.lt hz⟩

/-- all blocks but those of Own are as they were; what Own has besides is new -/
structure Aside (Own : World → Nat → Prop) (w w' : World) : Prop where
  size : w.heap.size ≤ w'.heap.size
  block : ∀ g, g < w.heap.size → ¬ Own w g → w'.heap[g]? = w.heap[g]?
  new : ∀ g, Own w' g → Own w g ∨ w.heap.size ≤ g
theorem Aside.refl (Own : World → Nat → Prop) (w : World) : Aside Own w w := ⟨Nat.le_refl _, fun _ _ _ => rfl, fun _ h => .inl h⟩
theorem Aside.trans {Own : World → Nat → Prop} {w w' w'' : World} (h : Aside Own w w') (k : Aside Own w' w'') : Aside Own w w'' := by
  refine ⟨Nat.le_trans h.size k.size, fun g hg hn => ?_, fun g hg => ?_⟩
  · rw [k.block g (Nat.lt_of_lt_of_le hg h.size) (fun e => by rcases h.new g e with e | e; exact hn e; omega), h.block g hg hn]
  · rcases k.new g hg with e | e
    · exact h.new g e
    · exact .inr (Nat.le_trans h.size e)
/-- what a caller of eachHunk owes: I holds when k hunks were visited; the function keeps it -/
structure Visits (f : FuncId) (caps : Array Value) (hs : List Tp.H) (w0 : World) (I : Nat → World → Prop) (Own : World → Nat → Prop) : Prop where
  lt : ∀ k w g, I k w → Own w g → g < w.heap.size
  up : ∀ k w1 w2, I k w1 → Below w1.heap.size w1 w2 → I k w2 ∧ ∀ g, Own w2 g → Own w1 g
  step : ∀ k (hk : k < hs.length) w1 (o n : Sv), I k w1 → Below w0.heap.size w0 w1 → Rd w0 o hs[k].old → Rd w0 n hs[k].new →
    Calls Try.prog f (#[.agg #[.int .i64 hs[k].at', sv o, sv n], .int .i64 (hs[k].at' + Tp.gr (hs.take k))] ++ caps) w1 fun e w2 => e = .returned (.tuple #[]) ∧ I (k + 1) w2 ∧ Below w0.heap.size w0 w2 ∧ Aside Own w1 w2
theorem Visits.wide {f : FuncId} {caps : Array Value} {hs : List Tp.H} {w0 : World} {I : Nat → World → Prop} {Own : World → Nat → Prop} (H : Visits f caps hs w0 I Own) {k : Nat} {w1 w2 : World} (h : I k w1) (hb : Below w1.heap.size w1 w2) : Aside Own w1 w2 :=
  ⟨hb.size, fun g hg _ => hb.block g hg, fun g hg => .inl ((H.up k w1 w2 h hb).2 g hg)⟩

set_option maxRecDepth 100000 in
set_option maxHeartbeats 4000000 in
theorem eachHunk_any (f : FuncId) (caps : Array Value) (I : Nat → World → Prop) (Own : World → Nat → Prop) (p : Option Addr) (hs : List Tp.H) (n cap : Nat) (w0 w : World) (hn : n = hs.length) (hp : Ptc w0 p hs) (hv : Tp.Vp hs) (h0 : Below w0.heap.size w0 w) (hI : I 0 w)
    (ef : Enters Try.prog f) (H : Visits f caps hs w0 I Own) :
    Calls Try.prog 38 #[.agg #[.slice p n cap], .func (.func f) #[] caps] w fun e w' => e = .returned (.tuple #[]) ∧ I hs.length w' ∧ Below w0.heap.size w0 w' ∧ Aside Own w w' := by
  subst hn
  have HP := Lib.hid hp
  have HV := Lib.hid hv
  have HK := Lib.hid H
  have hz0 := h0.size
  have ef' : ∀ (args : Array Value) (w : World), (callFunc f args).run Try.prog w = .ok (.enter f args) w := ef
  have hb1 := up_alloc (Below.refl w.heap.size w) (.cells #[.slice p hs.length cap] 48 (0, 0))
  have I1 := Lib.hid (H.up 0 _ _ hI hb1).1
  have A1 := Lib.hid (H.wide hI hb1)
  have B1 := Lib.hid (up_alloc h0 (.cells #[.slice p hs.length cap] 48 (0, 0)))
  have O1 := Lib.hid (One.new w (.slice p hs.length cap) 48 w.heap.size rfl)
  have NO : Hid (¬ Own (w.alloc (.cells #[.slice p hs.length cap] 48 (0, 0))) w.heap.size) := Lib.hid (fun e => by
    have := H.lt 0 w _ hI ((H.up 0 _ _ hI hb1).2 _ e); omega)
  have hzW : (w.alloc (.cells #[.slice p hs.length cap] 48 (0, 0))).heap.size = w.heap.size + 1 := by simp
  clear ef hp hv H hI hb1
  go_enter Try.func38, Try.ntmps38
  go_wp2_with fail
  obtain ⟨W, hW⟩ : ∃ W, W = w.alloc (.cells #[.slice p hs.length cap] 48 (0, 0)) := ⟨_, rfl⟩
  rw [← hW] at I1 A1 B1 O1 NO hzW ⊢
  have oc0 := O1.out.c
  clear hW h0
  go_wp2_with fail
  go_loopw [4, 10] (fun g i wr => ∃ k : Nat, k ≤ hs.length ∧ i = .int .i64 k ∧ g = .int .i64 (Tp.gr (hs.take k)) ∧ Hid (I k wr) ∧ Hid (Below w0.heap.size w0 wr) ∧ Hid (Aside Own W wr)) (fun _ i _ => hs.length - (intOf i).toNat)
  case atStart => exact ⟨0, Nat.zero_le _, rfl, rfl, I1, B1, Lib.hid (Aside.refl _ _)⟩
  case round =>
    obtain ⟨k, hk, rfl, rfl, hI, hB, hA⟩ := hrel
    clear I1
    have b0 : (0 : Int) ≤ (k : Int) := by omega
    by_cases hlt : k < hs.length
    · have g1 : decide (k < hs.length) = true := by simpa using hlt
      have b1 : (k : Int) < (hs.length : Int) := by omega
      obtain ⟨b, off, rfl, hbb0, ⟨o1, o2, o3⟩, ⟨n1, n2, n3⟩, c0, c1, c2, r1, r2⟩ := HP.out.cell hlt
      replace c0 := (hB.out.cell (p := ⟨b, off + k * 3, none⟩) hbb0).trans c0
      replace c1 := (hB.out.cell (p := ⟨b, off + k * 3 + 1, none⟩) hbb0).trans c1
      replace c2 := (hB.out.cell (p := ⟨b, off + k * 3 + 2, none⟩) hbb0).trans c2
      obtain ⟨⟨pr, hok⟩, -⟩ := Tp.ch_at HV.out.ch k hlt
      have z0 := hok.lo
      have z1 := hok.hi
      have z2 := (Lin.vC_zero hok.old).1
      have z3 := (Lin.vC_zero hok.new).1
      have gb := Tp.gr_bound (hs.take k) (fun x hx => by
        have := Tp.ch_new HV.out.ch x (List.mem_of_mem_take hx)
        exact ⟨(Lin.vC_zero this.2).1, (Lin.vC_zero this.1).1⟩)
      have hl := HV.out.len
      rw [List.length_take] at gb
      have gn := Lib.hid (Tp.gr_next hs k hlt)
      have hb1 := up_alloc (Below.refl wr.heap.size wr) (.cells #[.int .i64 hs[k].at', .slice o1 hs[k].old.length o3, .slice n1 hs[k].new.length n3] 67 (0, 0))
      have B2 := Lib.hid (up_alloc hB.out (.cells #[.int .i64 hs[k].at', .slice o1 hs[k].old.length o3, .slice n1 hs[k].new.length n3] 67 (0, 0)))
      have I2 := Lib.hid (HK.out.up k _ _ hI.out hb1).1
      have A2 := Lib.hid (hA.out.trans (HK.out.wide hI.out hb1))
      have N2 : Hid (¬ Own (wr.alloc (.cells #[.int .i64 hs[k].at', .slice o1 hs[k].old.length o3, .slice n1 hs[k].new.length n3] 67 (0, 0))) wr.heap.size) := Lib.hid (fun e => by
        have := HK.out.lt k wr _ hI.out ((HK.out.up k _ _ hI.out hb1).2 _ e); omega)
      have l1 := r1.len
      have l2 := r2.len
      dsimp only at l1 l2
      subst l1 l2
      simp only [sv] at c1 c2
      have U2 := Lib.hid (Hu.new wr hs[k].at' (.slice o1 hs[k].old.length o3) (.slice n1 hs[k].new.length n3) 67)
      have ST := Lib.hid (HK.out.step k hlt _ (o1, hs[k].old.length, o3) (n1, hs[k].new.length, n3) I2.out B2.out r1 r2)
      have wz : IntKind.i64.wrap (hs[k].at' + Tp.gr (hs.take k)) = hs[k].at' + Tp.gr (hs.take k) := IntWalk.i64_in _ (by omega)
      have wz2 : IntKind.i64.wrap (Tp.gr (hs.take k) + ((hs[k].new.length : Int) - (hs[k].old.length : Int))) = Tp.gr (hs.take k) + ((hs[k].new.length : Int) - (hs[k].old.length : Int)) := IntWalk.i64_in _ (by omega)
      obtain ⟨⟨z, ol, nl⟩, hx⟩ : ∃ x, x = hs[k] := ⟨_, rfl⟩
      obtain ⟨gk, hgk⟩ : ∃ g, g = Tp.gr (hs.take k) := ⟨_, rfl⟩
      rw [← hx] at c0 c1 c2 z0 z1 z2 z3 gn B2 I2 A2 N2 U2 ST wz wz2
      rw [← hgk] at gb gn ST wz wz2 ⊢
      dsimp only at c0 c1 c2 z0 z1 z2 z3 wz wz2
      clear hx hgk hok pr r1 r2 hb1
      go_wp2_with fail
      refine ST.out.mono ?_
      rintro e w2 ⟨rfl, hI2, hB2, hA2⟩
      have U3 := U2.out.same (hA2.block wr.heap.size U2.out.lt N2.out) hA2.size
      obtain ⟨y0, y1, y2, y3⟩ := U3
      have R2 := Lib.hid (And.intro hI2 (And.intro hB2 (A2.out.trans hA2)))
      clear hI2 hB2 hA2
      go_wp2_with fail
      go_roundw
      case rel => exact ⟨k + 1, hlt, by go_num, by rw [gn.out], Lib.hid R2.out.1, Lib.hid R2.out.2.1, Lib.hid R2.out.2.2⟩
      case measure => first | (simp [intOf]; done) | (simp [intOf]; omega)
    · have g1 : decide (k < hs.length) = false := by simpa using hlt
      obtain rfl : k = hs.length := by omega
      have R := Lib.hid (And.intro hI.out (And.intro hB.out (A1.out.trans hA.out)))
      clear hI hB hA
      go_wp2_with fail
      go_returns
      exact ⟨rfl, R.out⟩
end Go.Proofs.Ytkfloglpihbdjaa
