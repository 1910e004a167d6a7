/-
  The program's behind, walked.
-/
import Derived.Test.YtbgnckbgpiajjaaCmA
import Derived.Test.YtbgnckbgpiajjaaTqF
import Derived.Deep.RegionLaw
namespace Go.Proofs.Ytbgnckbgpiajjaa
open Go.RowKit
set_option maxRecDepth 4000

theorem bh_len (hs : List Tp.H) (cs : List Tp.Cg) : (Tp.bh hs cs).length = hs.length := List.length_map ..
theorem bh_get (hs : List Tp.H) (cs : List Tp.Cg) (k : Nat) (h : k < hs.length) (h' : k < (Tp.bh hs cs).length) : (Tp.bh hs cs)[k] = ⟨hs[k].at' + Tp.gb hs[k].at' cs, hs[k].old, hs[k].new⟩ := by simp [Tp.bh]
theorem bh_next (hs : List Tp.H) (cs : List Tp.Cg) (k : Nat) (h : k < hs.length) : (Tp.bh hs cs).take (k + 1) = (Tp.bh hs cs).take k ++ [⟨hs[k].at' + Tp.gb hs[k].at' cs, hs[k].old, hs[k].new⟩] := by
  have h' : k < (Tp.bh hs cs).length := by rw [bh_len]; exact h
  rw [List.take_succ_eq_append_getElem h', bh_get hs cs k h h']
/-- p leads to the hunks in every world that is as w from base on -/
def PtAt (base : Nat) (w : World) (p : Option Addr) (hs : List Tp.H) : Prop := ∀ W : World, w.heap.size ≤ W.heap.size → (∀ k, base ≤ k → k < w.heap.size → W.heap[k]? = w.heap[k]?) → Ptc W p hs
theorem PtAt.self {base : Nat} {w : World} {p : Option Addr} {hs : List Tp.H} (h : PtAt base w p hs) : Ptc w p hs := h w (Nat.le_refl _) (fun _ _ _ => rfl)
theorem PtAt.up {base : Nat} {w w' : World} {p : Option Addr} {hs : List Tp.H} (h : PtAt base w p hs) (hb : Below w.heap.size w w') : PtAt base w' p hs := fun W h1 h2 =>
  h W (Nat.le_trans hb.size h1) (fun k h3 h4 => by rw [h2 k h3 (Nat.lt_of_lt_of_le h4 hb.size), hb.block k h4])
theorem PtAt.le {base base' : Nat} {w : World} {p : Option Addr} {hs : List Tp.H} (h : PtAt base w p hs) (hb : base' ≤ base) : PtAt base' w p hs := fun W h1 h2 => h W h1 (fun k h3 h4 => h2 k (Nat.le_trans hb h3) h4)
theorem PtAt.set {base : Nat} {w : World} {p : Option Addr} {hs : List Tp.H} (h : PtAt base w p hs) {g k : Nat} (hg : g < base) (u : Value) : PtAt base (w.setCell ⟨g, k, none⟩ u) p hs := fun W h1 h2 =>
  h W (by rw [World.size_setCell] at h1; exact h1) (fun j h3 h4 => by rw [h2 j h3 (by rw [World.size_setCell]; exact h4), Below.heap_setCell _ _ _ _ (by dsimp only; omega)])
theorem PtAt.none (base : Nat) (w : World) : PtAt base w none [] := fun _ _ _ => ⟨fun _ => rfl, fun h => (h rfl).elim⟩
/-- a patch that was made is returned -/
def PtRet (hs : List Tp.H) (w : World) (e : Ending) (w' : World) : Prop :=
  ∃ p cap, e = .returned (.agg #[.slice p hs.length cap]) ∧ PtAt w.heap.size w' p hs ∧ (p = Option.none → cap = 0) ∧ hs.length ≤ cap ∧ Below w.heap.size w w'

set_option maxRecDepth 100000 in
set_option maxHeartbeats 8000000 in
theorem behind_any (p q : Option Addr) (hs : List Tp.H) (cs : List Tp.Cg) (n cap m cap' : Nat) (w : World) (hn : n = hs.length) (hm : m = cs.length) (hp : Ptc w p hs) (hb : Bd hs) (hsz : ∀ h ∈ hs, (∀ x ∈ h.old, x.size ≤ 140737488351232) ∧ (∀ x ∈ h.new, x.size ≤ 140737488351232)) (hq : Row chE w q cs) (hc : Bc cs) :
    Calls Try.prog 64 #[.agg #[.slice p n cap], .slice q m cap'] w (PtRet (Tp.bh hs cs) w) := by
  subst hn hm
  have HP := Lib.hid hp
  have HQ := Lib.hid hq
  have HB := Lib.hid hb
  have HC := Lib.hid hc
  have HS := Lib.hid hsz
  have hl := hb.len
  have B0 := Lib.hid (up_alloc (up_alloc (up_alloc (Below.refl w.heap.size w) (.cells #[.slice p hs.length cap] 41 (0, 0))) (.cells #[.slice none 0 0] 41 (0, 0))) (.cells #[.slice none 0 0] 41 (0, 0)))
  have O0 := ((One.new w (.slice p hs.length cap) 41 w.heap.size rfl).alloc (.cells #[.slice none 0 0] 41 (0, 0))).alloc (.cells #[.slice none 0 0] 41 (0, 0))
  have R0 := Lib.hid ((One.new (w.alloc (.cells #[.slice p hs.length cap] 41 (0, 0))) (.slice none 0 0) 41 (w.heap.size + 1) (by simp)).alloc (.cells #[.slice none 0 0] 41 (0, 0)))
  have G0 := Lib.hid (One.new ((w.alloc (.cells #[.slice p hs.length cap] 41 (0, 0))).alloc (.cells #[.slice none 0 0] 41 (0, 0))) (.slice none 0 0) 41 (w.heap.size + 1 + 1) (by simp))
  have hz0 : (((w.alloc (.cells #[.slice p hs.length cap] 41 (0, 0))).alloc (.cells #[.slice none 0 0] 41 (0, 0))).alloc (.cells #[.slice none 0 0] 41 (0, 0))).heap.size = w.heap.size + 3 := by simp
  have oc := O0.c
  clear hp hq hb hc hsz O0
  go_enter Try.func64, Try.ntmps64
  go_wp2_with fail
  obtain ⟨w0, hw0⟩ : ∃ w0, w0 = ((w.alloc (.cells #[.slice p hs.length cap] 41 (0, 0))).alloc (.cells #[.slice none 0 0] 41 (0, 0))).alloc (.cells #[.slice none 0 0] 41 (0, 0)) := ⟨_, rfl⟩
  rw [← hw0] at B0 R0 G0 hz0 oc ⊢
  clear hw0
  go_wp2_with fail
  go_loopw [12] (fun i wr => ∃ k : Nat, k ≤ hs.length ∧ i = .int .i64 k ∧ (∃ v qs, Hid (PBs (w.heap.size + 3) (w.heap.size + 1 + 1) qs.length wr v qs) ∧ Hid (qs.map (·.1) = (Tp.bh hs cs).take k)) ∧ Hid (Below (w.heap.size + 1 + 1) w0 wr)) (fun i _ => hs.length - (intOf i).toNat)
  case atStart => exact ⟨0, Nat.zero_le _, rfl, ⟨_, [], Lib.hid (PBs.start _ _ _ G0.out.c G0.out.f (by omega) (by omega)), Lib.hid rfl⟩, Lib.hid (Below.refl _ _)⟩
  case round =>
    obtain ⟨k, hk, rfl, ⟨v, qs, hV, hM⟩, hB⟩ := hrel
    have b0 : (0 : Int) ≤ (k : Int) := by omega
    have uw := B0.out.trans (hB.out.mono (show w.heap.size ≤ w.heap.size + 1 + 1 by omega))
    have hzr := hV.out.bl
    have hpl := hV.out.pl
    by_cases hlt : k < hs.length
    · have g1 : decide (k < hs.length) = true := by simpa using hlt
      have b1 : (k : Int) < (hs.length : Int) := by omega
      obtain ⟨b, off, rfl, hbb0, ⟨o1, o2, o3⟩, ⟨n1, n2, n3⟩, c0, c1, c2, r1, r2⟩ := HP.out.cell hlt
      replace c0 := (uw.cell (p := ⟨b, off + k * 3, none⟩) hbb0).trans c0
      replace c1 := (uw.cell (p := ⟨b, off + k * 3 + 1, none⟩) hbb0).trans c1
      replace c2 := (uw.cell (p := ⟨b, off + k * 3 + 2, none⟩) hbb0).trans c2
      obtain ⟨z0, z1, z2, z3⟩ := HB.out.each _ (List.getElem_mem hlt)
      have gk := gb_bd HC.out hs[k].at' cs.length
      rw [List.take_length] at gk
      have HLT := Lib.hid hlt
      have NX := Lib.hid (bh_next hs cs k hlt)
      have SZ := Lib.hid (HS.out _ (List.getElem_mem hlt))
      obtain ⟨⟨z, ol, nl⟩, hx⟩ : ∃ x, x = hs[k]'hlt := ⟨_, rfl⟩
      rw [← hx] at c0 z0 z1 z2 z3 gk r1 r2 NX SZ
      dsimp only at c0 z0 z1 z2 z3 gk r1 r2 NX SZ
      obtain ⟨q1, e1, k1, -⟩ := r1
      obtain ⟨q2, e2, k2, -⟩ := r2
      dsimp only at q1 e1 k1 q2 e2 k2
      subst e1 e2
      simp only [sv] at c1 c2
      have hql : qs.length = k := by have := congrArg List.length hM.out; rw [List.length_map, List.length_take, bh_len] at this; omega
      obtain ⟨D, hD⟩ : ∃ d, d = Tp.gb z cs := ⟨_, rfl⟩
      have CG := Lib.hid (fun W (hW : Row chE W q cs) => growthBefore_any z q cs cs.length cap' W rfl hW HC.out)
      rw [← hD] at gk NX CG
      clear hD hx
      have wz : IntKind.i64.wrap (z + D) = z + D := IntWalk.i64_in _ (by omega)
      have hb1 := up_alloc (Below.refl wr.heap.size wr) (.cells #[.int .i64 z, .slice o1 ol.length o3, .slice n1 nl.length n3] 81 (0, 0))
      have U1 := Lib.hid (Hu.new wr z (.slice o1 ol.length o3) (.slice n1 nl.length n3) 81)
      have V1 := Lib.hid (hV.out.up hb1)
      have UW := Lib.hid uw
      have UW1 := Lib.hid (up_alloc uw (.cells #[.int .i64 z, .slice o1 ol.length o3, .slice n1 nl.length n3] 81 (0, 0)))
      have HB1 := Lib.hid hb1
      have hzW : (wr.alloc (.cells #[.int .i64 z, .slice o1 ol.length o3, .slice n1 nl.length n3] 81 (0, 0))).heap.size = wr.heap.size + 1 := by simp
      have Q1 := Lib.hid q1
      have Q2 := Lib.hid q2
      clear q1 q2 hb1 uw
      go_wp2_with fail
      obtain ⟨W, hW⟩ : ∃ W, W = wr.alloc (.cells #[.int .i64 z, .slice o1 ol.length o3, .slice n1 nl.length n3] 81 (0, 0)) := ⟨_, rfl⟩
      rw [← hW] at U1 V1 UW1 HB1 hzW ⊢
      clear hW
      have CE := fun n => over_call (CG.out (over W n) ((HQ.out.mono UW1.out).mono (over_below _ n)))
      refine over_hunk (by kernel_rfl) (by kernel_rfl) U1.out ?_
      intro s1 s2 s3
      repeat (go_big_quiet_step ((go_at_call 98; exact CE _)))
      refine wpQuiet_nil ?_
      rintro _ ⟨nq, rfl⟩
      clear s1 s2 s3 CE
      have BW := over_below W nq
      have U2 := Lib.hid (U1.out.up BW)
      have V2 := Lib.hid (V1.out.up BW)
      have UW2 := Lib.hid (up_call UW1.out BW)
      have HB2 := Lib.hid (up_call HB1.out BW)
      have hzX : wr.heap.size + 1 ≤ (over W nq).heap.size := by have := BW.size; omega
      obtain ⟨X, hX⟩ : ∃ X, X = over W nq := ⟨_, rfl⟩
      rw [← hX] at U2 V2 UW2 HB2 hzX ⊢
      clear hX BW U1 V1 UW1 HB1 hzW c0 c1 c2
      go_wp2_with fail
      have Q1X := Lib.hid (Q1.out.mono UW2.out)
      have Q2X := Lib.hid (Q2.out.mono UW2.out)
      have K1 := fun (Y : World) (hY : Sts Y o1 ol) => sclone_any o1 ol ol.length o3 Y rfl hY k1 (by omega)
      have K2 := fun (Y : World) (hY : Sts Y n1 nl) => sclone_any n1 nl nl.length n3 Y rfl hY k2 (by omega)
      obtain ⟨x0, x1, x2, x3⟩ := U2.out
      have pc := V2.out.pc
      have pf := V2.out.pf
      have y1 := World.new_ne X ⟨wr.heap.size, 1, none⟩ x1
      have y2 := World.new_ne X ⟨wr.heap.size, 2, none⟩ x2
      have nph : (w.heap.size + 1 + 1) ≠ wr.heap.size := by omega
      have nhp : wr.heap.size ≠ (w.heap.size + 1 + 1) := by omega
      have VB : Hid (∀ b, v.ownBlock = some b → w.heap.size + 3 ≤ b ∧ b < wr.heap.size) := Lib.hid (fun b hb => own_block hV.out.own b hb)
      have VNH : Hid (v.ownBlock ≠ some wr.heap.size ∧ v.ownBlock ≠ some (w.heap.size + 1 + 1)) := Lib.hid ⟨fun e => by have := VB.out _ e; omega, fun e => by have := VB.out _ e; omega⟩
      have hpX : w.heap.size + 1 + 1 < X.heap.size := by omega
      clear g1 b0 b1
      go_region_law (first
          | (refine step_appE hkE _ (by rfl) (.tmp 24) (.tmp 33) (by rfl) (w.heap.size + 3) v (qs.map Q.raw) ((z + D), (m1, m2, m3), (r1, r2, r3)) ⟨wB.heap.size, 0, none⟩ 1 (by rfl) (GV.out.own.alloc _) (by rfl) (hunk_one _ _ (m1, m2, m3) (r1, r2, r3) _) (by simp [hkE]; omega) (by simp; omega) (by simp; omega) (wB.heap.size + 1) (by simp) ?_
             intro gg cc w3 own2 gr2 hat2 hlt2
             have G2 : World.grownBy wB w3 v.ownBlock := by refine grow_trans ?_ gr2; exact ⟨rfl, rfl, rfl, by simp, fun k hk _ => Below.heap_alloc _ _ _ hk⟩
             have s3 := G2.cell pcB (Ne.symm VNH.out.2)
             have s4 : w3.frozen? ⟨w.heap.size + 1 + 1, 0, none⟩ = false := by rw [G2.frozen_far ⟨w.heap.size + 1 + 1, 0, none⟩ (by dsimp only; omega) (Ne.symm VNH.out.2), pfB])
          | (go_simp
             go_at_call_of 80 o1
             refine (K1 _ (Q1X.out.mono (Below.refl _ _).drew)).mono ?_
             rintro e wA ⟨m1, m2, m3, rfl, ownA, hbA⟩
             have OA := Lib.hid ownA
             have BA : Hid (Below X.heap.size X wA) := Lib.hid ((Below.refl _ _).drew.trans (hbA.mono (by simp)))
             have zA := BA.out.size
             have c2A := (BA.out.cell (p := ⟨wr.heap.size, 2, none⟩) x3).trans x2
             have pcA := (BA.out.cell (p := ⟨w.heap.size + 1 + 1, 0, none⟩) hpX).trans pc
             clear ownA hbA)
          | (go_simp
             go_at_call_of 80 n1
             refine (K2 _ (Q2X.out.mono BA.out)).mono ?_
             rintro e wB ⟨r1, r2, r3, rfl, ownB, hbB⟩
             have OB := Lib.hid ownB
             have BB : Hid (Below wA.heap.size wA wB) := Lib.hid hbB
             have zB := BB.out.size
             have BXB : Hid (Below X.heap.size X wB) := Lib.hid (BA.out.trans (BB.out.mono zA))
             have pcB := (BXB.out.cell (p := ⟨w.heap.size + 1 + 1, 0, none⟩) hpX).trans pc
             have pfB := (BXB.out.frozen (p := ⟨w.heap.size + 1 + 1, 0, none⟩) hpX).trans pf
             have qB := cell_up pcB (.cells #[.int .i64 (z + D), .slice m1 m2 m3, .slice r1 r2 r3] 81 (0, 0))
             have GV := Lib.hid (V2.out.up BXB.out)
             have hGC : w.heap.size + 3 ≤ wB.heap.size := by omega
             have M : Hid (Made X wB (.slice m1 m2 m3) (.slice r1 r2 r3) ol nl) := Lib.hid ⟨BXB.out, (OA.out.up BB.out).le (by simp), OB.out.le (by omega)⟩
             clear ownB hbB))
      all_goals
        have PU0 := (pushedN (o := (m1, m2, m3)) (n := (r1, r2, r3)) (h := ⟨z + D, ol, nl⟩) V2.out M.out Q1.out.small Q2.out.small (by dsimp only; omega) (by dsimp only; omega) gr2 own2 (by
          rcases hat2 with e | e
          · exact .inl e.symm
          · right; rw [e]; simp [Value.ownBlock]))
        rw [List.length_map, hql] at PU0
        have PM : Hid ((qs ++ [((⟨z + D, ol, nl⟩, (m1, m2, m3), (r1, r2, r3)) : Q)]).map (·.1) = (Tp.bh hs cs).take (k + 1)) := Lib.hid (by rw [List.map_append, hM.out, NX.out]; rfl)
        have PU := Lib.hid PU0
        clear PU0
        clear own2 gr2 hat2 G2 s3 s4 K1 K2
        go_wp2_with fail
        go_roundw
        case rel =>
          refine ⟨k + 1, HLT.out, by go_num, ⟨_, _, Lib.hid PU.out.1, PM⟩, Lib.hid ((hB.out.trans (HB2.out.mono (by omega))).trans PU.out.2.1)⟩
        case measure => first | (simp [intOf]; done) | (simp [intOf]; omega)
    · have g1 : decide (k < hs.length) = false := by simpa using hlt
      obtain rfl : k = hs.length := by omega
      have em : qs.map (·.1) = Tp.bh hs cs := by rw [hM.out, List.take_of_length_le (by rw [bh_len]; omega)]
      have hql : qs.length = hs.length := by have := congrArg List.length em; rw [List.length_map, bh_len] at this; exact this
      have rc := (hB.out.cell (p := ⟨w.heap.size + 1, 0, none⟩) (by dsimp only; omega)).trans R0.out.c
      have rf := (hB.out.frozen (p := ⟨w.heap.size + 1, 0, none⟩) (by dsimp only; omega)).trans R0.out.f
      have UW := Lib.hid uw
      obtain ⟨pv, cv, rfl, -, hcv, hlv⟩ := hV.out.ptc
      have pc : wr.cell? ⟨w.heap.size + 1 + 1, 0, none⟩ = some (.slice pv (Tp.bh hs cs).length cv) := by rw [← em]; exact hV.out.pc
      have EM := Lib.hid em
      have V3 := Lib.hid (hV.out.out (w.heap.size + 1) (by omega) (by omega) (.slice pv (Tp.bh hs cs).length cv))
      have hlv' : Hid ((Tp.bh hs cs).length ≤ cv) := Lib.hid (by rw [bh_len, ← hql]; exact hlv)
      have dr := World.cell?_setCell_same wr ⟨w.heap.size + 1, 0, none⟩ (.slice pv (Tp.bh hs cs).length cv) rc
      clear uw em hlv hql
      go_wp2_with fail
      refine bodyPost_ret (v := .agg #[.slice pv (Tp.bh hs cs).length cv]) (by simp [results, Try.results64, go_sem, dr]) rfl ⟨pv, cv, rfl, ?_, hcv, hlv'.out, UW.out.setCell (by dsimp only; omega) _⟩
      intro Y hY hk'
      obtain ⟨p', c', e', hp', -, -⟩ := V3.out.ptcW Y hY (fun j h1 h2 => hk' j (by omega) h2)
      injection e' with e1 _ _
      rw [← EM.out, e1]; exact hp'
end Go.Proofs.Ytbgnckbgpiajjaa
