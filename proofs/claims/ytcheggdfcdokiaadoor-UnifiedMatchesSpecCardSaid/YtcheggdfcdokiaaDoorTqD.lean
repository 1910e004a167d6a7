
/-
  The program's Apply, walked.
-/
import Derived.Test.YtcheggdfcdokiaaDoorTqA
import Derived.Test.YtcheggdfcdokiaaDoorTpD
namespace Go.Proofs.YtcheggdfcdokiaaDoor
open Go.RowKit
set_option maxRecDepth 4000

namespace Tp
theorem ch_gap {hs : List H} : ∀ {prev : Int}, Ch prev hs → ∀ (k : Nat) (h : k < hs.length), (if hk : 0 < k ∧ k - 1 < hs.length then en (hs[k - 1]'hk.2) else prev) < hs[k].at' := by
  induction hs with
  | nil => intro prev _ k h; simp at h
  | cons x r ih =>
    intro prev hc k h
    cases k with
    | zero => rw [dif_neg (by omega)]; exact hc.1.gap
    | succ k =>
      have := ih hc.2 k (by simpa using h)
      rw [dif_pos ⟨by omega, by simp at h ⊢; omega⟩]
      by_cases hk : 0 < k
      · rw [dif_pos ⟨hk, by simp at h; omega⟩] at this
        obtain ⟨m, rfl⟩ : ∃ m, k = m + 1 := ⟨k - 1, by omega⟩
        simpa using this
      · obtain rfl : k = 0 := by omega
        rw [dif_neg (by omega)] at this
        simpa using this
theorem ap_step (t : List ByteArray) (hs : List H) (k f : Nat) (h : k < hs.length) : ap t f (hs.drop k) = mid t f hs[k].at'.toNat ++ hs[k].new ++ ap t (en hs[k]).toNat (hs.drop (k + 1)) := by
  rw [List.drop_eq_getElem_cons h, ap]
end Tp
theorem pv_gap {hs : List Tp.H} (h : Tp.Ch (-1) hs) (k : Nat) (hk : k < hs.length) : pvE hs k < hs[k].at' := Tp.ch_gap h k hk

/-- 'append(v, x...)' for a slice of strings of the call's own: what else lies where v does not is as it was -/
theorem wp_appG {ops : Array Oper} {rest : List Oper} {o : Oper} {a : Act} {Q : Exit → Act → World → Prop} {w : World} (hgd : o.guard = none) (s x : Operand)
    (ho : o.op = .call { callee := .builtin .append, args := #[s, x], argTypes := #[22, 22] })
    (base : Nat) (v : Value) (l m : List ByteArray) (p : Option Addr) (cap : Nat) (hs : a.eval s = v) (hown : OwnS base w v l) (hx : a.eval x = .slice p m.length cap) (hp : Sts w p m) (hcap : p = none → cap = 0)
    (hlen : l.length + m.length ≤ 8796093022208) (hbase : base ≤ w.heap.size)
    (h : ∀ v' w', OwnS base w' v' (l ++ m) → w.grownBy w' v.ownBlock → wpList Tryd.prog ops Q rest (a.put o.dst v') w') : wpList Tryd.prog ops Q (o :: rest) a w := by
  obtain ⟨i0, hi, hz0, hz1, hz2⟩ := info_parts infoS
  cases p with
  | none =>
    have hm := hp.nil' rfl
    subst hm
    have hc := hcap rfl
    subst hc
    refine wpList_append_own_none hgd s x 22 ho base 9 i0 1 Tryd.underlying22 hi v l.length (l.map strv) hs hown hx ?_
    exact h v w (by rw [List.append_nil]; exact hown) (World.grownBy.refl _ _)
  | some ad =>
    refine wpList_append_own _ hgd s x 22 ho base 9 i0 (.string ByteArray.empty) 1 16 Tryd.underlying22 hi hz0 hz1 hz2 rfl (by decide) v l.length (l.map strv) hs hown ad m.length cap (m.map strv) hx (by simp) ?_ ?_ (by unfold maxLen; omega) (by omega) hbase ?_
    · intro j u hj
      have hjl : j < m.length := by simpa using (List.getElem?_eq_some_iff.1 hj).1
      obtain ⟨b, off, e, hlt, hc⟩ := hp.at' (by intro e; subst e; simp at hjl)
      cases e
      rw [add_at, hc j hjl]
      simp [hjl, strv] at hj
      rw [← hj]
      simp [List.getD_eq_getElem?_getD, hjl]
    · intro u hu
      obtain ⟨n, _, rfl⟩ := List.mem_map.1 hu
      rfl
    · intro v' w' h1 h2 _
      refine h v' w' ?_ h2
      unfold OwnS
      rw [List.length_append, List.map_append]
      exact h1
theorem Hu.grown {w w' : World} {g : Nat} {z : Int} {o n : Value} (h : Hu w g z o n) {row : Option Nat} (hg : w.grownBy w' row) (hr : row ≠ some g) : Hu w' g z o n :=
  ⟨hg.cell h.c0 (Ne.symm hr), hg.cell h.c1 (Ne.symm hr), hg.cell h.c2 (Ne.symm hr), Nat.lt_of_lt_of_le h.lt hg.size⟩

/-- a hunk's block, known whole -/
theorem hunk_blk (w : World) (cs : Array Value) (t : TypeId) : (w.alloc (.cells cs t (0, 0))).heap[w.heap.size]? = some (.cells cs t (0, 0)) := by
  show (w.heap.push _)[w.heap.size]? = _
  simp
theorem own_ne {base g : Nat} {w : World} {v : Value} {l : List ByteArray} {cs : Array Value} (h : OwnS base w v l) (hb : w.heap[g]? = some (.cells cs 46 (0, 0))) : v.ownBlock ≠ some g := by
  obtain ⟨h1, ⟨rfl, -⟩ | ⟨g', cap, cur, e, hg, hc, r⟩⟩ := h
  · intro e; cases e
  · intro e'
    rw [e] at e'
    cases e'
    rw [hb] at hc
    simp at hc
theorem One.mono {w w' : World} {g B : Nat} {v : Value} (h : One w g v) (hb : Below B w w') (hg : g < B) : One w' g v :=
  ⟨by rw [hb.cell (p := ⟨g, 0, none⟩) hg, h.c], by rw [hb.frozen (p := ⟨g, 0, none⟩) hg, h.f]⟩

/-- what Apply has made of the first k hunks: r; the text from line f on is left -/
structure ApI (t : List ByteArray) (hs : List Tp.H) (k f : Nat) (r : List ByteArray) : Prop where
  ap : r ++ Tp.ap t f (hs.drop k) = Tp.ap t 0 hs
  cf : Tp.cf t (hs.drop k) k = Tp.cf t hs 0
  ft : f ≤ t.length
  pv : (f : Int) ≤ pvE hs k + 1
  rl : r.length ≤ 240 * k
theorem ApI.start (t : List ByteArray) (hs : List Tp.H) : ApI t hs 0 0 [] := ⟨rfl, rfl, Nat.zero_le _, by rw [pvE_zero]; omega, by simp⟩
theorem ApI.next {t : List ByteArray} {hs : List Tp.H} {k f : Nat} {r : List ByteArray} (h : ApI t hs k f r) (hv : Tp.Vp hs) (ht : t.length ≤ 120) (hk : k < hs.length) (hh : Tp.has t hs[k] = true) :
    ApI t hs (k + 1) (Tp.en hs[k]).toNat (r ++ mid t f hs[k].at'.toNat ++ hs[k].new) ∧ f ≤ hs[k].at'.toNat ∧ hs[k].at'.toNat ≤ t.length := by
  have hg := pv_gap hv.ch k hk
  obtain ⟨⟨pr, hok⟩, -⟩ := Tp.ch_at hv.ch k hk
  have hp := h.pv
  have hn := (Lin.vC_zero hok.new).1
  have h1 := (Tp.has_true.1 hh).hi
  have h0 := hok.lo
  have e : Tp.en hs[k] = hs[k].at' + hs[k].old.length := rfl
  have rl := h.rl
  have lm : (mid t f hs[k].at'.toNat).length ≤ 120 := by rw [mid_size t f _ (by omega)]; omega
  refine ⟨⟨?_, ?_, by omega, ?_, ?_⟩, by omega, by omega⟩
  · rw [← h.ap, Tp.ap_step t hs k f hk]; simp [List.append_assoc]
  · rw [← h.cf, cf_next t hs k hk, if_pos hh]
  · rw [pvE_succ hs k hk]; omega
  · rw [List.length_append, List.length_append]; omega
theorem ApI.fault {t : List ByteArray} {hs : List Tp.H} {k f : Nat} {r : List ByteArray} (h : ApI t hs k f r) (hk : k < hs.length) (hh : Tp.has t hs[k] = false) : Tp.cf t hs 0 = some k := by
  rw [← h.cf, cf_next t hs k hk, hh]; rfl
theorem ApI.last {t : List ByteArray} {hs : List Tp.H} {k f : Nat} {r : List ByteArray} (h : ApI t hs k f r) (hk : ¬ k < hs.length) : Tp.cf t hs 0 = none ∧ r ++ t.drop f = Tp.ap t 0 hs := by
  have e : hs.drop k = [] := List.drop_eq_nil_of_le (by omega)
  have h1 := h.ap
  have h2 := h.cf
  rw [e] at h1 h2
  exact ⟨h2.symm, h1⟩

set_option maxRecDepth 100000 in
set_option maxHeartbeats 8000000 in
theorem tpApply_any (p pt : Option Addr) (hs : List Tp.H) (t : List ByteArray) (n cap m cap' : Nat) (w : World) (hn : n = hs.length) (hm : m = t.length) (hp : Ptc w p hs) (hl : hs.length ≤ 2513169434845) (hq : Sts w pt t) (hc' : pt = none → cap' = 0) (ht : t.length ≤ cap') :
    Calls Tryd.prog 11 #[.agg #[.slice p n cap], .slice pt m cap'] w (ApPost hs t w) := by
  subst hn hm
  have HP := Lib.hid hp
  have HQ := Lib.hid hq
  have HC := Lib.hid hc'
  have HT := Lib.hid ht
  clear hp hq hc' ht
  have up0 : Below w.heap.size w ((w.alloc (.cells #[.slice p hs.length cap] 25 (0, 0))).alloc (.cells #[.int .i64 0, .int .i64 0] 27 (0, 0))) := up_alloc (up_alloc (Below.refl _ _) _) _
  have O0 : Hid (One ((w.alloc (.cells #[.slice p hs.length cap] 25 (0, 0))).alloc (.cells #[.int .i64 0, .int .i64 0] 27 (0, 0))) w.heap.size (.slice p hs.length cap)) := Lib.hid ((One.new w (.slice p hs.length cap) 25 w.heap.size rfl).alloc _)
  have F0 : Hid (Flt ((w.alloc (.cells #[.slice p hs.length cap] 25 (0, 0))).alloc (.cells #[.int .i64 0, .int .i64 0] 27 (0, 0))) (w.heap.size + 1) 0 0) := by
    have := Flt.new (w.alloc (.cells #[.slice p hs.length cap] 25 (0, 0))) 0 0 27
    rwa [World.size_alloc] at this
  go_enter Tryd.func11, Tryd.ntmps11
  go_wp2_with fail
  refine (tpValidate_any p hs _ cap _ rfl (HP.out.mono up0) hl).mono ?_
  rintro e w1 ⟨rfl, hb1⟩
  have u1 := up_call up0 hb1
  have O1 := Lib.hid (O0.out.up hb1)
  have F1 := Lib.hid (F0.out.up hb1)
  have hz1 := u1.size
  clear up0 hb1 O0 F0
  by_cases hp0 : Tp.pC hs = 0
  · have VP := Lib.hid (Tp.pC_zero.1 hp0)
    have HP0 := Lib.hid hp0
    rw [hp0, Tp.pI_zero hp0]
    clear hp0
    have v1 := up_alloc u1 (.cells #[.int .i64 0, .int .i64 0] 27 (0, 0))
    have O2 := Lib.hid (O1.out.alloc (.cells #[.int .i64 0, .int .i64 0] 27 (0, 0)))
    have F2 := Lib.hid (F1.out.alloc (.cells #[.int .i64 0, .int .i64 0] 27 (0, 0)))
    go_wp2_with fail
    refine (validate_any pt t _ _ _ rfl (HQ.out.mono v1)).mono ?_
    rintro e w2 ⟨rfl, hb2⟩
    have u2 := up_call v1 hb2
    have O3 := Lib.hid (O2.out.up hb2)
    have F3 := Lib.hid (F2.out.up hb2)
    clear v1 hb2 O1 F1 O2 F2 u1 hz1
    have hz2 := u2.size
    by_cases ht0 : Lin.vC t = 0
    · have HT0 := Lib.hid ht0
      have lt := (Lin.vC_zero ht0).1
      have e3 := Lin.vI_zero ht0
      rw [ht0, e3]
      clear ht0 e3
      have u20 := Lib.hid u2
      have oc3 := (O3.out.alloc (.cells #[.int .i64 0, .int .i64 0] 27 (0, 0))).c
      clear u2
      go_wp2_with fail
      go_loopw [8, 9, 29] (fun res fr i wr => ∃ (k f : Nat) (r : List ByteArray), k ≤ hs.length ∧ i = .int .i64 k ∧ fr = .int .i64 f ∧ Hid (ApI t hs k f r) ∧ Hid (OwnS w2.heap.size wr res r) ∧ Hid (Below w2.heap.size w2 wr)) (fun _ _ i _ => hs.length - (intOf i).toNat)
      case atStart => exact ⟨0, 0, [], Nat.zero_le _, rfl, rfl, Lib.hid (ApI.start t hs), Lib.hid (World.ownsRow_nil _ _ _ _), Lib.hid (up_alloc (Below.refl _ _) _)⟩
      case round =>
        obtain ⟨k, f, r, hk, rfl, rfl, hI, own, hB⟩ := hrel
        have uw := u20.out.trans (hB.out.mono hz2)
        have b0 : (0 : Int) ≤ (k : Int) := by omega
        have O4 := Lib.hid (O3.out.mono hB.out (by have := O3.out.lt; omega))
        have F4 := Lib.hid (F3.out.mono hB.out (by have := F3.out.lt; omega))
        have hzr := hB.out.size
        have hzw := uw.size
        obtain ⟨po, co, rfl, hco, -⟩ := ownS_shape own.out
        by_cases hlt : k < hs.length
        · have g1 : decide (k < hs.length) = true := by simpa using hlt
          have b1 : (k : Int) < (hs.length : Int) := by omega
          obtain ⟨b, off, rfl, hbb0, ⟨o1, o2, o3⟩, ⟨n1, n2, n3⟩, c0, c1, c2, r1, r2⟩ := HP.out.cell hlt
          replace c0 := (uw.cell (p := ⟨b, off + k * 3, none⟩) hbb0).trans c0
          replace c1 := (uw.cell (p := ⟨b, off + k * 3 + 1, none⟩) hbb0).trans c1
          replace c2 := (uw.cell (p := ⟨b, off + k * 3 + 2, none⟩) hbb0).trans c2
          obtain ⟨⟨pr, hok⟩, -⟩ := Tp.ch_at VP.out.ch k hlt
          have z0 := hok.lo
          have z1 := hok.hi
          have z2 := (Lin.vC_zero hok.old).1
          have z3 := (Lin.vC_zero hok.new).1
          have NX := Lib.hid (fun hh => hI.out.next VP.out lt hlt hh)
          have FX := Lib.hid (fun hh => hI.out.fault hlt hh)
          obtain ⟨⟨z, ol, nl⟩, hx⟩ : ∃ x, x = hs[k] := ⟨_, rfl⟩
          rw [← hx] at c0 r1 r2 z0 z1 z2 z3 NX FX
          obtain ⟨q1, e1', -, -⟩ := r1
          obtain ⟨q2, e2', k2, -⟩ := r2
          dsimp only at e1' e2' q1 q2 k2 c0 z0 z1 z2 z3
          subst e1' e2'
          simp only [sv] at c1 c2
          obtain ⟨zn, rfl⟩ : ∃ zn : Nat, z = zn := ⟨z.toNat, by omega⟩
          have Q1 := Lib.hid q1
          have Q2 := Lib.hid q2
          have K2 := Lib.hid k2
          have HCO := Lib.hid hco
          have RL := Lib.hid hI.out.rl
          have U1 := Lib.hid (Hu.new wr (zn : Int) (.slice o1 ol.length o3) (.slice n1 nl.length n3) 46)
          have v1 := up_alloc uw (.cells #[.int .i64 (zn : Int), .slice o1 ol.length o3, .slice n1 nl.length n3] 46 (0, 0))
          have OW1 := Lib.hid (ownS_up own.out (up_alloc (Below.refl _ _) (.cells #[.int .i64 (zn : Int), .slice o1 ol.length o3, .slice n1 nl.length n3] 46 (0, 0))))
          have BW1 := Lib.hid (up_alloc hB.out (.cells #[.int .i64 (zn : Int), .slice o1 ol.length o3, .slice n1 nl.length n3] 46 (0, 0)))
          have OBK := Lib.hid (own_blk own.out)
          have oc := O4.out.c
          clear hok hx q1 q2 k2 hco pr own hI
          cases hh : Tp.has t ⟨(zn : Int), ol, nl⟩
          · have R := Lib.hid (aC_c HP0.out HT0.out (FX.out hh))
            have CH := Lib.hid (occurs_any pt o1 n1 t ⟨(zn : Int), ol, nl⟩ cap' o3 nl.length n3 _ (HQ.out.mono v1) (Q1.out.mono v1) HT.out z0 (by dsimp only; omega) (by dsimp only; omega))
            rw [hh] at CH
            clear hh
            go_wp2_with fail
            refine CH.out.mono ?_
            rintro e wF ⟨rfl, hbF⟩
            have F5 := Lib.hid (F4.out.alloc (.cells #[.int .i64 (zn : Int), .slice o1 ol.length o3, .slice n1 nl.length n3] 46 (0, 0)))
            obtain ⟨d0, d1, -, -, -⟩ := (F5.out.up hbF).set2 19 (k : Int)
            obtain ⟨a0, a1, a2, a3, a4⟩ := F5.out.up hbF
            have uF := up_call v1 hbF
            go_wp2_with fail
            refine bodyPost_ret (v := .tuple #[.slice none 0 0, .agg #[.int .i64 19, .int .i64 (k : Int)]]) (by simp [results, Tryd.results11, go_sem, d0, d1]) rfl ⟨_, by rw [R.out.1, R.out.2.1], by rw [R.out.2.2]; exact World.ownsRow_nil _ _ _ _, ?_⟩
            exact (uF.setCell (by first | omega | (dsimp only; omega)) _).setCell (by first | omega | (dsimp only; omega)) _
          · have CH := Lib.hid (occurs_any pt o1 n1 t ⟨(zn : Int), ol, nl⟩ cap' o3 nl.length n3 _ (HQ.out.mono v1) (Q1.out.mono v1) HT.out z0 (by dsimp only; omega) (by dsimp only; omega))
            rw [hh] at CH
            obtain ⟨nx, nf, nt⟩ := NX.out hh
            dsimp only at nf nt
            rw [Int.toNat_natCast] at nf nt
            have een : (Tp.en (⟨(zn : Int), ol, nl⟩ : Tp.H)).toNat = zn + ol.length := by unfold Tp.en; dsimp only; omega
            rw [een] at nx
            dsimp only at nx
            rw [Int.toNat_natCast] at nx
            have NX2 := Lib.hid nx
            have hms := mid_size t f zn nt
            have hm1 : r.length + (mid t f zn).length ≤ 8796093022208 := by have := RL.out; have := VP.out.len; omega
            have hm2 : (r ++ mid t f zn).length + nl.length ≤ 8796093022208 := by have := RL.out; have := VP.out.len; rw [List.length_append]; omega
            have HM := Lib.hid (And.intro hm1 hm2)
            have MS := Lib.hid hms
            have hcp := HT.out
            have s1 := fun w => run_mid pt t.length cap' f zn nf (by omega) w
            have s3 := fun h => sAt_none (p := pt) (k := f) (cap := cap') HC.out h
            have S3 := Lib.hid s3
            clear hh NX FX nx hms hm1 hm2 een s3
            go_wp2_with fail
            refine CH.out.mono ?_
            rintro e w4 ⟨rfl, hb4⟩
            have u4 := up_call v1 hb4
            have OW4 := Lib.hid (ownS_up OW1.out hb4)
            have U4 := Lib.hid (U1.out.up hb4)
            have HB4 := Lib.hid ((hb4.block wr.heap.size (by simp)).trans (hunk_blk wr #[.int .i64 (zn : Int), .slice o1 ol.length o3, .slice n1 nl.length n3] 46))
            have BW4 := Lib.hid (BW1.out.trans (hb4.mono (by simp; omega)))
            have hz4 := BW4.out.size
            have M4 := Lib.hid ((HQ.out.mono u4).mid f zn cap' nf nt hcp)
            clear hb4 CH v1 OW1 U1 BW1
            obtain ⟨y0, y1, y2, y3⟩ := U4.out
            have NE4 := Lib.hid (own_ne OW4.out HB4.out)
            have UA := Lib.hid (fun (w' : World) (gr : w4.grownBy w' (Value.slice po r.length co).ownBlock) => And.intro (U4.out.grown gr NE4.out) (And.intro (u4.grown gr (by omega) fun b hb => by have := OBK.out b hb; omega) (And.intro (BW4.out.grown gr hz4 fun b hb => (OBK.out b hb).1) ((gr.block wr.heap.size y3 (Ne.symm NE4.out)).trans HB4.out))))
            go_wp2_with (first
              | (at_builtin; refine wp_appG rfl (.tmp 40) (.tmp 45) rfl w2.heap.size _ r (mid t f zn) (sAt pt f cap') (cap' - f) rfl OW4.out (by rw [MS.out]; rfl) M4.out S3.out HM.out.1 hz4 ?_; intro v5 w5 own5 gr5
                 have OW5 := Lib.hid own5
                 have UX := UA.out w5 gr5
                 have X5 := Lib.hid UX
                 have z0' := UX.1.c0
                 have z1' := UX.1.c1
                 have z2' := UX.1.c2
                 clear own5 gr5 UX)
              | (at_builtin; refine wp_appG rfl (.tmp 47) (.tmp 49) rfl w2.heap.size v5 (r ++ mid t f zn) nl n1 n3 rfl OW5.out rfl (Q2.out.mono X5.out.2.1) K2.out HM.out.2 X5.out.2.2.1.size ?_; intro v6 w6 own6 gr6
                 have OW6 := Lib.hid own6
                 have NE5 := own_ne OW5.out X5.out.2.2.2
                 have U6 := Lib.hid (X5.out.1.grown gr6 NE5)
                 have BW6 := Lib.hid (X5.out.2.2.1.grown gr6 X5.out.2.2.1.size fun b hb => (own_blk OW5.out b hb).1)
                 have zz0 := U6.out.c0
                 have zz1 := U6.out.c1
                 have zz2 := U6.out.c2
                 clear own6 gr6 NE5))
            have hz6 := BW6.out.size
            refine (end_any (zn : Int) o1 n1 ol.length o3 nl.length n3 _ z0 (by omega) (by omega)).mono ?_
            rintro e w7 ⟨rfl, hb7⟩
            have OW7 := Lib.hid (ownS_up OW6.out hb7)
            have BW7 := Lib.hid (BW6.out.trans (hb7.mono hz6))
            go_wp2_with fail
            go_roundw
            case rel => exact ⟨k + 1, zn + ol.length, _, hlt, by go_num, by go_num, NX2, OW7, BW7⟩
            case measure => first | (simp [intOf]; done) | (simp [intOf]; omega)
        · have g1 : decide (k < hs.length) = false := by simpa using hlt
          obtain ⟨cf0, al⟩ := hI.out.last hlt
          have ft := hI.out.ft
          have hcp := HT.out
          have s1 := fun w => run_from pt t.length cap' f ft w
          have s3 := fun h => sAt_none (p := pt) (k := f) (cap := cap') HC.out h
          have S3 := Lib.hid s3
          have M4 := Lib.hid ((HQ.out.mono uw).from f cap' ft hcp)
          have HM : Hid (r.length + (t.drop f).length ≤ 8796093022208) := Lib.hid (by have := hI.out.rl; have := VP.out.len; rw [List.length_drop]; omega)
          have AL := Lib.hid al
          have CF := Lib.hid cf0
          have OBK := Lib.hid (own_blk own.out)
          have SM := Lib.hid (by have := Tp.ap_small VP.out HT0.out 0 0; rwa [List.drop_zero] at this : ∀ x ∈ Tp.ap t 0 hs, x.size ≤ 140737488351232)
          have OC := Lib.hid uw
          obtain ⟨l, hl'⟩ : ∃ l, l = Tp.ap t 0 hs := ⟨_, rfl⟩
          clear hI cf0 al s3 hcp uw
          by_cases hlong : 120 < l.length
          · have R := Lib.hid (aC_l HP0.out HT0.out CF.out (by rw [← hl']; exact hlong))
            have g5 : decide ((120 : Int) < (l.length : Int)) = true := by rw [decide_eq_true_iff]; omega
            have HL := Lib.hid hl'
            clear hl' hlong
            go_wp2_with (at_builtin; refine wp_appG rfl (.tmp 54) (.tmp 57) rfl w2.heap.size _ r (t.drop f) (sAt pt f cap') (cap' - f) rfl own.out (by first | rfl | (rw [List.length_drop]; done) | (rw [List.length_drop]; rfl)) M4.out S3.out HM.out hzr ?_; intro v5 w5 own5 gr5
                         rw [AL.out, ← HL.out] at own5
                         have BW5 := Lib.hid (hB.out.grown gr5 hzr fun b hb => (OBK.out b hb).1)
                         obtain ⟨p5, c5, rfl, -, -⟩ := ownS_shape own5
                         have OW5 := Lib.hid own5
                         obtain ⟨d0, d1, -, -, -⟩ := (F3.out.mono BW5.out F3.out.lt).set2 10 (-1)
                         obtain ⟨y0, y1, y2, y3, y4⟩ := F3.out.mono BW5.out F3.out.lt
                         clear own5 gr5)
            have uF := u20.out.trans (BW5.out.mono hz2)
            refine bodyPost_ret (v := .tuple #[.slice none 0 0, .agg #[.int .i64 10, .int .i64 (-1)]]) (by simp [results, Tryd.results11, go_sem, d0, d1]) rfl ⟨_, by rw [R.out.1, R.out.2.1], by rw [R.out.2.2]; exact World.ownsRow_nil _ _ _ _, ?_⟩
            exact (uF.setCell (by first | omega | (dsimp only; omega)) _).setCell (by first | omega | (dsimp only; omega)) _
          · have R := Lib.hid (aC_o HP0.out HT0.out CF.out (by rw [← hl']; exact hlong))
            have g5 : decide ((120 : Int) < (l.length : Int)) = false := by rw [decide_eq_false_iff_not]; omega
            have HL := Lib.hid hl'
            clear hl' hlong
            go_wp2_with (at_builtin; refine wp_appG rfl (.tmp 54) (.tmp 57) rfl w2.heap.size _ r (t.drop f) (sAt pt f cap') (cap' - f) rfl own.out (by first | rfl | (rw [List.length_drop]; done) | (rw [List.length_drop]; rfl)) M4.out S3.out HM.out hzr ?_; intro v5 w5 own5 gr5
                         rw [AL.out, ← HL.out] at own5
                         have BW5 := Lib.hid (hB.out.grown gr5 hzr fun b hb => (OBK.out b hb).1)
                         obtain ⟨p5, c5, rfl, -, -⟩ := ownS_shape own5
                         have OW5 := Lib.hid own5
                         obtain ⟨d0, d1, -, -, -⟩ := (F3.out.mono BW5.out F3.out.lt).set2 0 0
                         obtain ⟨y0, y1, y2, y3, y4⟩ := F3.out.mono BW5.out F3.out.lt
                         clear own5 gr5)
            have uF := u20.out.trans (BW5.out.mono hz2)
            have hf3 := F3.out.lt
            refine bodyPost_ret (v := .tuple #[.slice p5 l.length c5, .agg #[.int .i64 0, .int .i64 0]]) (by simp [results, Tryd.results11, go_sem, d0, d1]) rfl ⟨_, by rw [R.out.1, R.out.2.1], ?_, ?_⟩
            · rw [R.out.2.2, ← HL.out]
              exact ownS_le (ownsRow_setCell_below (ownsRow_setCell_below OW5.out (a := ⟨w.heap.size + 1, 0, none⟩) (by dsimp only; omega) _) (a := ⟨w.heap.size + 1, 1, none⟩) (by dsimp only; omega) _) hz2
            · exact (uF.setCell (by first | omega | (dsimp only; omega)) _).setCell (by first | omega | (dsimp only; omega)) _
    · have E := Lib.hid (aC_t HP0.out ht0)
      have hne := ht0
      obtain ⟨d0, d1, -, -, -⟩ := (F3.out.set2 (Lin.vC t) (-2)).alloc (.cells #[.int .i64 (Lin.vC t), .int .i64 (Lin.vI t)] 27 (0, 0))
      obtain ⟨a0, a1, a2, a3, a4⟩ := F3.out
      go_wp2_with fail
      go_region
      go_wp2_with fail
      refine bodyPost_ret (v := .tuple #[.slice none 0 0, .agg #[.int .i64 (Lin.vC t), .int .i64 (-2)]]) (by simp [results, Tryd.results11, go_sem, d0, d1]) rfl ⟨_, by rw [E.out.1, E.out.2.1], by rw [E.out.2.2]; exact World.ownsRow_nil _ _ _ _, ?_⟩
      (repeat' (first | (with_reducible exact Below.refl _ _) | (with_reducible assumption) | (with_reducible refine below_drewN ?_ _) | (with_reducible refine Below.setCell ?_ ?_ _) | (with_reducible refine Below.alloc ?_ ?_ _) | (with_reducible refine Below.drew ?_) | go_size))
  · have E := Lib.hid (aC_p (t := t) hp0)
    obtain ⟨d0, d1, -, -, -⟩ := (F1.out.set2 (Tp.pC hs) (Tp.pI hs)).alloc (.cells #[.int .i64 (Tp.pC hs), .int .i64 (Tp.pI hs)] 27 (0, 0))
    obtain ⟨a0, a1, a2, a3, a4⟩ := F1.out
    have hne := hp0
    go_wp2_with fail
    go_region
    go_wp2_with fail
    refine bodyPost_ret (v := .tuple #[.slice none 0 0, .agg #[.int .i64 (Tp.pC hs), .int .i64 (Tp.pI hs)]]) (by simp [results, Tryd.results11, go_sem, d0, d1]) rfl ⟨_, by rw [E.out.1, E.out.2.1], by rw [E.out.2.2]; exact World.ownsRow_nil _ _ _ _, ?_⟩
    (repeat' (first | (with_reducible exact Below.refl _ _) | (with_reducible assumption) | (with_reducible refine below_drewN ?_ _) | (with_reducible refine Below.setCell ?_ ?_ _) | (with_reducible refine Below.alloc ?_ ?_ _) | (with_reducible refine Below.drew ?_) | go_size))
end Go.Proofs.YtcheggdfcdokiaaDoor
