
/-
  The program's unified: rangeOf, headerOf, writeGroup, walked.
-/
import Derived.Test.YtcheggdfcdokiaaDoorUnC
import Derived.Test.YtcheggdfcdokiaaDoorShelfI
namespace Go.Proofs.YtcheggdfcdokiaaDoor
open Go.RowKit
set_option maxRecDepth 4000

/-- strconv.Itoa below N, in the worlds that are as w0 -/
def ItoaTo (N : Nat) (w0 : World) : Prop := ∀ (n : Nat) (w : World), n < N → Below w0.heap.size w0 w → Calls Tryd.prog 46 #[.int .i64 (n : Int)] w (BPost (.string (Lin.mk (Lib.decDigits n))) w)
theorem itoa_small (w0 : World) : ItoaTo 100 w0 := fun n w hn _ => (Tryd.strconv_Itoa_small n hn w).mono fun _ _ ⟨h1, h2⟩ => ⟨h1, by rw [h2]; exact Below.refl _ _⟩
theorem mk_app (a b : List UInt8) : Lin.mk a ++ Lin.mk b = Lin.mk (a ++ b) := by
  unfold Lin.mk
  apply ByteArray.ext
  simp
/-- the range of a header -/
def rgB (a b : Nat) : List UInt8 := Lib.decDigits (if a < b then a + 1 else a) ++ [44] ++ Lib.decDigits (b - a)
/-- a header -/
def hdB (a b c d : Nat) : List UInt8 := [64, 64, 32, 45] ++ rgB a c ++ [32, 43] ++ rgB b d ++ [32, 64, 64]

theorem dec_len {n : Nat} (h : n < 1000) : (Lib.decDigits n).length ≤ 3 := by
  rw [Lib.decDigits]
  split
  · simp
  · rw [Lib.decDigits]
    split
    · simp
    · rw [Lib.decDigits, dif_pos (by omega)]; simp
theorem rg_len {a b N : Nat} (hN : N ≤ 1000) (hb : b < N) (hab : a ≤ b) : (rgB a b).length ≤ 7 := by
  unfold rgB
  have h1 := dec_len (n := if a < b then a + 1 else a) (by split <;> omega)
  have h2 := dec_len (n := b - a) (by omega)
  simp only [List.length_append, List.length_cons, List.length_nil]
  omega
theorem mk_size (l : List UInt8) : (Lin.mk l).size = l.length := by
  show l.toArray.size = l.length
  simp

set_option maxHeartbeats 1000000 in
theorem rangeOf_any (N a b : Nat) (w0 w : World) (IT : ItoaTo N w0) (hab : a ≤ b) (hb : b < N) (hN : N ≤ 1000) (h0 : Below w0.heap.size w0 w) :
    Calls Tryd.prog 36 #[.int .i64 (a : Int), .int .i64 (b : Int)] w (BPost (.string (Lin.mk (rgB a b))) w) := by
  have w2 : IntKind.i64.wrap ((b : Int) - (a : Int)) = ((b - a : Nat) : Int) := by rw [IntWalk.i64_in _ (by omega)]; omega
  have g1 : decide ((a : Int) < (b : Int)) = decide (a < b) := by rw [decide_eq_decide]; omega
  obtain ⟨f, hf, hf2⟩ : ∃ f, f = (if a < b then a + 1 else a) ∧ f ≤ b := ⟨_, rfl, by split <;> omega⟩
  obtain ⟨x, hx⟩ : ∃ x, x = Lin.mk (Lib.decDigits f) := ⟨_, rfl⟩
  obtain ⟨y, hy⟩ : ∃ y, y = Lin.mk (Lib.decDigits (b - a)) := ⟨_, rfl⟩
  have E : Hid (x ++ ⟨#[44]⟩ ++ y = Lin.mk (rgB a b)) := Lib.hid (by
    have e : (⟨#[44]⟩ : ByteArray) = Lin.mk [44] := rfl
    rw [hx, hy, e, mk_app, mk_app, hf]; rfl)
  have sx : x.size ≤ 3 := by rw [hx, mk_size]; exact dec_len (by omega)
  have sy : y.size ≤ 3 := by rw [hy, mk_size]; exact dec_len (by omega)
  have I1 := Lib.hid (fun W (hW : Below w0.heap.size w0 W) => (by have := IT f W (by omega) hW; rwa [← hx] at this : Calls Tryd.prog 46 #[.int .i64 (f : Int)] W (BPost (.string x) W)))
  have I2 := Lib.hid (fun W (hW : Below w0.heap.size w0 W) => (by have := IT (b - a) W (by omega) hW; rwa [← hy] at this : Calls Tryd.prog 46 #[.int .i64 ((b - a : Nat) : Int)] W (BPost (.string y) W)))
  have H0 := Lib.hid h0
  clear IT h0 hx hy
  by_cases hlt : a < b
  · have g2 : decide (a < b) = true := decide_eq_true hlt
    rw [g2] at g1
    rw [if_pos hlt] at hf
    have w1 : IntKind.i64.wrap ((a : Int) + 1) = (f : Int) := by rw [IntWalk.i64_in _ (by omega)]; omega
    clear hf hlt
    go_enter Tryd.func36, Tryd.ntmps36
    go_wp2_with fail
    refine (I1.out _ H0.out).mono ?_
    rintro e w3 ⟨rfl, hb3⟩
    have H3 := Lib.hid (up_call H0.out hb3)
    have HB := Lib.hid hb3
    clear hb3
    go_wp2_with fail
    refine (I2.out _ H3.out).mono ?_
    rintro e w4 ⟨rfl, hb4⟩
    have HB2 := Lib.hid (up_call HB.out hb4)
    clear hb4
    go_wp2_with fail
    go_ret
    exact ⟨by rw [← E.out]; rfl, HB2.out⟩
  · have g2 : decide (a < b) = false := decide_eq_false hlt
    rw [g2] at g1
    rw [if_neg hlt] at hf
    subst hf
    clear hlt
    go_enter Tryd.func36, Tryd.ntmps36
    go_wp2_with fail
    refine (I1.out _ H0.out).mono ?_
    rintro e w3 ⟨rfl, hb3⟩
    have H3 := Lib.hid (up_call H0.out hb3)
    have HB := Lib.hid hb3
    clear hb3
    go_wp2_with fail
    refine (I2.out _ H3.out).mono ?_
    rintro e w4 ⟨rfl, hb4⟩
    have HB2 := Lib.hid (up_call HB.out hb4)
    clear hb4
    go_wp2_with fail
    go_ret
    exact ⟨by rw [← E.out]; rfl, HB2.out⟩

set_option maxRecDepth 100000 in
set_option maxHeartbeats 2000000 in
theorem headerOf_any (N a b c d : Nat) (w0 w : World) (IT : ItoaTo N w0) (hac : a ≤ c) (hbd : b ≤ d) (hc : c < N) (hd : d < N) (hN : N ≤ 1000) (h0 : Below w0.heap.size w0 w) :
    Calls Tryd.prog 16 #[.agg #[.int .i64 (a : Int), .int .i64 (b : Int)], .agg #[.int .i64 (c : Int), .int .i64 (d : Int)]] w (BPost (.string (Lin.mk (hdB a b c d))) w) := by
  have R1 := Lib.hid (fun W (hW : Below w0.heap.size w0 W) => rangeOf_any N a c w0 W IT hac hc hN hW)
  have R2 := Lib.hid (fun W (hW : Below w0.heap.size w0 W) => rangeOf_any N b d w0 W IT hbd hd hN hW)
  have s1 := rg_len hN hc hac
  have s2 := rg_len hN hd hbd
  obtain ⟨x, hx⟩ : ∃ x, x = Lin.mk (rgB a c) := ⟨_, rfl⟩
  obtain ⟨y, hy⟩ : ∃ y, y = Lin.mk (rgB b d) := ⟨_, rfl⟩
  have sx : x.size ≤ 7 := by rw [hx, mk_size]; exact s1
  have sy : y.size ≤ 7 := by rw [hy, mk_size]; exact s2
  have E : Hid ((⟨#[64, 64, 32, 45]⟩ : ByteArray) ++ x ++ ⟨#[32, 43]⟩ ++ y ++ ⟨#[32, 64, 64]⟩ = Lin.mk (hdB a b c d)) := Lib.hid (by
    have e1 : (⟨#[64, 64, 32, 45]⟩ : ByteArray) = Lin.mk [64, 64, 32, 45] := rfl
    have e2 : (⟨#[32, 43]⟩ : ByteArray) = Lin.mk [32, 43] := rfl
    have e3 : (⟨#[32, 64, 64]⟩ : ByteArray) = Lin.mk [32, 64, 64] := rfl
    rw [hx, hy, e1, e2, e3, mk_app, mk_app, mk_app, mk_app]; rfl)
  rw [← hx] at R1
  rw [← hy] at R2
  have H0 := Lib.hid h0
  have BX := Lib.hid (up_alloc (up_alloc (Below.refl w.heap.size w) (.cells #[.int .i64 (a : Int), .int .i64 (b : Int)] 49 (0, 0))) (.cells #[.int .i64 (c : Int), .int .i64 (d : Int)] 49 (0, 0)))
  have K1 := Lib.hid ((Flt.new w (a : Int) (b : Int) 49).alloc (.cells #[.int .i64 (c : Int), .int .i64 (d : Int)] 49 (0, 0)))
  have K2 : Hid (Flt ((w.alloc (.cells #[.int .i64 (a : Int), .int .i64 (b : Int)] 49 (0, 0))).alloc (.cells #[.int .i64 (c : Int), .int .i64 (d : Int)] 49 (0, 0))) (w.heap.size + 1) c d) := Lib.hid (by
    have := Flt.new (w.alloc (.cells #[.int .i64 (a : Int), .int .i64 (b : Int)] 49 (0, 0))) (c : Int) (d : Int) 49
    rwa [World.size_alloc] at this)
  clear IT h0 hx hy s1 s2 hac hbd hc hd
  go_enter Tryd.func16, Tryd.ntmps16
  go_wp2_with fail
  obtain ⟨W, hW⟩ : ∃ W, W = (w.alloc (.cells #[.int .i64 (a : Int), .int .i64 (b : Int)] 49 (0, 0))).alloc (.cells #[.int .i64 (c : Int), .int .i64 (d : Int)] 49 (0, 0)) := ⟨_, rfl⟩
  rw [← hW] at BX K1 K2 ⊢
  clear hW
  have CE1 := fun n => over_call (R1.out (over W n) ((up_call H0.out BX.out).trans ((over_below W n).mono (by have := H0.out.size; have := BX.out.size; omega))))
  have CE2 := fun n => over_call (R2.out (over W n) ((up_call H0.out BX.out).trans ((over_below W n).mono (by have := H0.out.size; have := BX.out.size; omega))))
  have k1 := over_cell K1.out.lt K1.out.c0
  have k2 := over_cell K1.out.lt K1.out.c1
  have k3 := over_cell K2.out.lt K2.out.c0
  have k4 := over_cell K2.out.lt K2.out.c1
  refine over_lit (by kernel_rfl) (by kernel_rfl) ?_
  repeat (go_big_quiet_step (first | (go_at_call_of 36 a; exact CE1 _) | (go_at_call_of 36 b; exact CE2 _)))
  refine wpQuiet_nil ?_
  rintro _ ⟨nq, rfl⟩
  have BW := Lib.hid (up_call BX.out (over_below W nq))
  clear k1 k2 k3 k4 CE1 CE2
  go_wp2_with fail
  go_ret
  exact ⟨by rw [← E.out]; rfl, BW.out⟩

/-- what is written of a group -/
def wgB (t : List ByteArray) : Nat → List Tp.H → Nat → List UInt8
  | f, [], hi => lnsB 32 (mid t f hi)
  | f, h :: r, hi => lnsB 32 (mid t f h.at'.toNat) ++ lnsB 45 h.old ++ lnsB 43 h.new ++ wgB t (Tp.en h).toNat r hi
/-- it can be written -/
def Wg (t : List ByteArray) : Nat → List Tp.H → Nat → Prop
  | f, [], hi => f ≤ hi ∧ hi ≤ t.length
  | f, h :: r, hi => (0 ≤ h.at' ∧ f ≤ h.at'.toNat ∧ h.at'.toNat ≤ t.length ∧ (∀ s ∈ h.old, s.size ≤ 80) ∧ (∀ s ∈ h.new, s.size ≤ 80) ∧ h.old.length ≤ 120 ∧ h.new.length ≤ 120) ∧ Wg t (Tp.en h).toNat r hi
theorem wgB_step (t : List ByteArray) (hs : List Tp.H) (k f hi : Nat) (h : k < hs.length) : wgB t f (hs.drop k) hi = lnsB 32 (mid t f hs[k].at'.toNat) ++ lnsB 45 hs[k].old ++ lnsB 43 hs[k].new ++ wgB t (Tp.en hs[k]).toNat (hs.drop (k + 1)) hi := by
  rw [List.drop_eq_getElem_cons h]; rfl
theorem wg_step {t : List ByteArray} {hs : List Tp.H} {k f hi : Nat} (h : k < hs.length) (H : Wg t f (hs.drop k) hi) : (0 ≤ hs[k].at' ∧ f ≤ hs[k].at'.toNat ∧ hs[k].at'.toNat ≤ t.length ∧ (∀ s ∈ hs[k].old, s.size ≤ 80) ∧ (∀ s ∈ hs[k].new, s.size ≤ 80) ∧ hs[k].old.length ≤ 120 ∧ hs[k].new.length ≤ 120) ∧ Wg t (Tp.en hs[k]).toNat (hs.drop (k + 1)) hi := by
  rw [List.drop_eq_getElem_cons h] at H; exact H

set_option maxRecDepth 100000 in
set_option maxHeartbeats 8000000 in
theorem writeGroup_any (B b : Nat) (bs : List Value) (pt p : Option Addr) (t : List ByteArray) (hs : List Tp.H) (rs : List (Int × Sv × Sv)) (n cap ct lo hi : Nat) (w0 w : World) (hn : n = hs.length) (hp : ∀ W, Bf B b w W → Row hkE W p rs) (rw0 : Rows w0 hs rs) (h0 : Below w0.heap.size w0 w) (hb0 : w0.heap.size ≤ b)
    (ht : Sts w0 pt t) (hs80 : ∀ s ∈ t, s.size ≤ 80) (htl : t.length ≤ 120) (hct : t.length ≤ ct) (hl : hs.length ≤ 130)
    (hw : Wg t lo hs hi) (h : Bld B b bs w) (hlen : bs.length ≤ 100000000) :
    Calls Tryd.prog 17 #[.pointer (some ⟨b, 0, none⟩), .slice pt t.length ct, .slice p n cap, .int .i64 (lo : Int), .int .i64 (hi : Int)] w fun e w' => e = .returned (.tuple #[]) ∧ Bld B b (bs ++ Lib.byteCells (wgB t lo hs hi)) w' ∧ Bf B b w w' := by
  subst hn
  have HZ : Hid (∀ W, Bf B b w W → Below w0.heap.size w0 W) := Lib.hid fun W hW => h0.trans ((hW.below (by have := h.lt; omega)).mono hb0)
  have HP := Lib.hid hp
  have HT := Lib.hid ht
  have HR := Lib.hid rw0
  have HI := Lib.hid h
  have H8 := Lib.hid hs80
  have HC := Lib.hid hct
  have HW := Lib.hid hw
  have hbB := h.lt
  have HLR := Lib.hid rw0.len
  clear hp ht h hs80 hw hct h0 rw0
  go_enter Tryd.func17, Tryd.ntmps17
  go_wp2_with fail
  go_loopw [10, 16] (fun fr i wr => ∃ (k f : Nat) (cs : List Value), k ≤ hs.length ∧ i = .int .i64 k ∧ fr = .int .i64 f ∧ Hid (Bld B b cs wr) ∧ Hid (Bf B b w wr) ∧ Hid (cs.length ≤ 100000000 + k * 40000) ∧ Hid (Wg t f (hs.drop k) hi) ∧ Hid (cs ++ Lib.byteCells (wgB t f (hs.drop k) hi) = bs ++ Lib.byteCells (wgB t lo hs hi))) (fun _ i _ => hs.length - (intOf i).toNat)
  case atStart => exact ⟨0, lo, bs, Nat.zero_le _, rfl, rfl, HI, Lib.hid (Bf.refl _ _ _), Lib.hid (by omega), HW, Lib.hid rfl⟩
  case round =>
    clear HI HW
    obtain ⟨k, f, cs, hk, rfl, rfl, hI, hB, hL, hW, hE⟩ := hrel
    have b0 : (0 : Int) ≤ (k : Int) := by omega
    by_cases hlt : k < hs.length
    · have g1 : decide (k < hs.length) = true := by simpa using hlt
      have b1 : (k : Int) < (hs.length : Int) := by omega
      have kh := hlt
      have kr : k < rs.length := by have := HLR.out; omega
      obtain ⟨bb, off, rfl, hbb, hc⟩ := (HP.out _ hB.out).cell kr
      obtain ⟨e0, r1, r2⟩ := HR.out.each k kh kr
      obtain ⟨⟨m1, m2, m3, m4, m5, m6, m7⟩, m8⟩ := wg_step kh hW.out
      have ST := wgB_step t hs k f hi kh
      have c0 : wr.cell? ⟨bb, off + k * 3, none⟩ = some (.int .i64 rs[k].1) := hc 0 _ rfl
      have c1 : wr.cell? ⟨bb, off + k * 3 + 1, none⟩ = some (sv rs[k].2.1) := hc 1 _ rfl
      have c2 : wr.cell? ⟨bb, off + k * 3 + 2, none⟩ = some (sv rs[k].2.2) := hc 2 _ rfl
      obtain ⟨⟨y, ⟨o1, o2, o3⟩, ⟨n1, n2, n3⟩⟩, hy⟩ : ∃ y, y = rs[k] := ⟨_, rfl⟩
      rw [← hy] at e0 r1 r2 c0 c1 c2
      obtain ⟨⟨x, ol, nl⟩, hx⟩ : ∃ x, x = hs[k] := ⟨_, rfl⟩
      rw [← hx] at e0 r1 r2 m1 m2 m3 m4 m5 m6 m7 m8 ST
      dsimp only at e0 r1 r2 m1 m2 m3 m4 m5 m6 m7
      obtain ⟨z, rfl⟩ : ∃ z : Nat, x = z := ⟨x.toNat, by omega⟩
      subst e0
      obtain ⟨q1, l1, -, -⟩ := r1
      obtain ⟨q2, l2, -, -⟩ := r2
      dsimp only at q1 l1 q2 l2
      subst l1 l2
      simp only [sv] at c1 c2
      dsimp only at ST
      rw [Int.toNat_natCast] at m2 m3 ST
      have een : (Tp.en (⟨(z : Int), ol, nl⟩ : Tp.H)).toNat = z + ol.length := by unfold Tp.en; dsimp only; omega
      rw [een] at ST m8
      have Q1 := Lib.hid q1
      have Q2 := Lib.hid q2
      have M4 := Lib.hid m4
      have M5 := Lib.hid m5
      have M8 := Lib.hid m8
      have NE := Lib.hid (by rw [← hE.out, ST] : cs ++ Lib.byteCells (lnsB 32 (mid t f z) ++ lnsB 45 ol ++ lnsB 43 nl ++ wgB t (z + ol.length) (hs.drop (k + 1)) hi) = bs ++ Lib.byteCells (wgB t lo hs hi))
      have ms := mid_size t f z m3
      have MS := Lib.hid ms
      have MD := Lib.hid (fun W (hW : Bf B b w W) => (HT.out.mono (HZ.out W hW)).mid f z ct m2 m3 HC.out)
      have s1 := fun w => run_mid pt t.length ct f z m2 (by have := HC.out; omega) w
      have K1 := Lib.hid (lnsB_len 32 (mid t f z) (fun s hs => H8.out s (List.mem_of_mem_drop (List.mem_of_mem_take hs))))
      have K2 := Lib.hid (lnsB_len 45 ol m4)
      have K3 := Lib.hid (lnsB_len 43 nl m5)
      have S1 := Lib.hid (fun s (hs : s ∈ mid t f z) => H8.out s (List.mem_of_mem_drop (List.mem_of_mem_take hs)))
      have X1 := hunk_blk wr #[.int .i64 (z : Int), .slice o1 ol.length o3, .slice n1 nl.length n3] 46
      have hb1 := up_alloc (Below.refl wr.heap.size wr) (.cells #[.int .i64 (z : Int), .slice o1 ol.length o3, .slice n1 nl.length n3] 46 (0, 0))
      have B1 := Lib.hid (hB.out.trans (bf_below hb1 hI.out.sz))
      have I1 := Lib.hid (hI.out.up hb1)
      have nhb : wr.heap.size ≠ b := by have := hI.out.sz; omega
      clear hy hx q1 q2 hc een ST m4 m5 m8 hb1 hE
      go_wp2_with fail
      obtain ⟨W1, hW1⟩ : ∃ W1, W1 = wr.alloc (.cells #[.int .i64 (z : Int), .slice o1 ol.length o3, .slice n1 nl.length n3] 46 (0, 0)) := ⟨_, rfl⟩
      rw [← hW1] at X1 B1 I1 ⊢
      clear hW1 c0 c1 c2
      refine (writeLines_any B b cs 32 (sAt pt f ct) (mid t f z) (z - f) (ct - f) W1 (by rw [MS.out]) (fun W h => MD.out W (B1.out.trans h)) S1.out (by rw [MS.out]; omega) I1.out (by have := hL.out; omega)).mono ?_
      rintro e w2 ⟨rfl, I2, F2⟩
      have I2H := Lib.hid I2
      have F2H := Lib.hid (B1.out.trans F2)
      have X2 := F2.obj X1 (by decide) nhb
      have y1 : w2.cell? ⟨wr.heap.size, 1, none⟩ = some (.slice o1 ol.length o3) := by rw [Lib.cell_of_heap X2]; rfl
      clear I2 F2 X1 I1 B1
      go_wp2_with fail
      refine (writeLines_any B b _ 45 o1 ol ol.length o3 w2 rfl (fun W h => Q1.out.mono (HZ.out W (F2H.out.trans h))) M4.out (by omega) I2H.out (by have := hL.out; rw [List.length_append, Lib.byteCells_length]; have := K1.out; rw [MS.out] at this; omega)).mono ?_
      rintro e w3 ⟨rfl, I3, F3⟩
      have I3H := Lib.hid I3
      have F3H := Lib.hid (F2H.out.trans F3)
      have X3 := F3.obj X2 (by decide) nhb
      have y2 : w3.cell? ⟨wr.heap.size, 2, none⟩ = some (.slice n1 nl.length n3) := by rw [Lib.cell_of_heap X3]; rfl
      clear I3 F3 X2 y1
      go_wp2_with fail
      refine (writeLines_any B b _ 43 n1 nl nl.length n3 w3 rfl (fun W h => Q2.out.mono (HZ.out W (F3H.out.trans h))) M5.out (by omega) I3H.out (by have := hL.out; rw [List.length_append, List.length_append, Lib.byteCells_length, Lib.byteCells_length]; have := K1.out; rw [MS.out] at this; have := K2.out; omega)).mono ?_
      rintro e w4 ⟨rfl, I4, F4⟩
      have F4H := Lib.hid (F3H.out.trans F4)
      have X4 := F4.obj X3 (by decide) nhb
      have x0 : w4.cell? ⟨wr.heap.size, 0, none⟩ = some (.int .i64 (z : Int)) := by rw [Lib.cell_of_heap X4]; rfl
      have x1 : w4.cell? ⟨wr.heap.size, 1, none⟩ = some (.slice o1 ol.length o3) := by rw [Lib.cell_of_heap X4]; rfl
      have x2 : w4.cell? ⟨wr.heap.size, 2, none⟩ = some (.slice n1 nl.length n3) := by rw [Lib.cell_of_heap X4]; rfl
      have LN : Hid ((((cs ++ Lib.byteCells (lnsB 32 (mid t f z))) ++ Lib.byteCells (lnsB 45 ol)) ++ Lib.byteCells (lnsB 43 nl)).length ≤ 100000000 + (k + 1) * 40000) := Lib.hid (by
        have := hL.out
        have h1 := K1.out
        rw [MS.out] at h1
        have h2 := K2.out
        have h3 := K3.out
        rw [List.length_append, List.length_append, List.length_append, Lib.byteCells_length, Lib.byteCells_length, Lib.byteCells_length]
        omega)
      have EN : Hid ((((cs ++ Lib.byteCells (lnsB 32 (mid t f z))) ++ Lib.byteCells (lnsB 45 ol)) ++ Lib.byteCells (lnsB 43 nl)) ++ Lib.byteCells (wgB t (z + ol.length) (hs.drop (k + 1)) hi) = bs ++ Lib.byteCells (wgB t lo hs hi)) := Lib.hid (by
        rw [← NE.out, Lib.byteCells_append, Lib.byteCells_append, Lib.byteCells_append]
        simp only [List.append_assoc])
      have I4H := Lib.hid I4
      clear I4 F4 X3 X4 y2 NE
      go_wp2_with fail
      refine (uend_any (z : Int) o1 n1 ol.length o3 nl.length n3 _ (by omega) (by omega) (by omega)).mono ?_
      rintro e w5 ⟨rfl, hb5⟩
      have I5 := Lib.hid (I4H.out.up hb5)
      have F5 := Lib.hid (F4H.out.trans (bf_below hb5 I4H.out.sz))
      clear hb5 x0 x1 x2
      go_wp2_with fail
      go_roundw
      case rel => exact ⟨k + 1, z + ol.length, _, kh, by go_num, by go_num, I5, F5, LN, M8, EN⟩
      case measure => first | (simp [intOf]; done) | (simp [intOf]; omega)
    · have g1 : decide (k < hs.length) = false := by simpa using hlt
      have hd : hs.drop k = [] := List.drop_eq_nil_of_le (by omega)
      have hw2 := hW.out
      have he := hE.out
      rw [hd] at hw2 he
      obtain ⟨m1, m2⟩ := hw2
      have MD := Lib.hid (fun W (hW : Bf B b w W) => (HT.out.mono (HZ.out W hW)).mid f hi ct m1 m2 HC.out)
      have s1 := fun w => run_mid pt t.length ct f hi m1 (by have := HC.out; omega) w
      have ms := mid_size t f hi m2
      have MS := Lib.hid ms
      have S1 := Lib.hid (fun s (hs : s ∈ mid t f hi) => H8.out s (List.mem_of_mem_drop (List.mem_of_mem_take hs)))
      have HE := Lib.hid he
      clear ms hd he
      go_wp2_with fail
      refine (writeLines_any B b cs 32 (sAt pt f ct) (mid t f hi) (hi - f) (ct - f) wr (by rw [MS.out]) (fun W h => MD.out W (hB.out.trans h)) S1.out (by rw [MS.out]; omega) hI.out (by have := hL.out; omega)).mono ?_
      rintro e w2 ⟨rfl, I2, F2⟩
      have I2H := Lib.hid I2
      have F2H := Lib.hid (hB.out.trans F2)
      clear I2 F2
      go_wp2_with fail
      go_end0
      exact ⟨rfl, by rw [← HE.out]; exact I2H.out, F2H.out⟩
end Go.Proofs.YtcheggdfcdokiaaDoor
