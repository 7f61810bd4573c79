/- glacierlaw08.LibraryOnce: its walk. Written by gen_lgq.py. -/
import Derived.Test.YtejgogahkjnefaaLgp
namespace Go.Proofs.Ytejgogahkjnefaa
open Go.RowKit Go.Maps
set_option linter.unusedVariables false
set_option linter.unusedSimpArgs false

set_option maxRecDepth 100000 in
set_option maxHeartbeats 8000000 in
theorem walk_once (vols nd : Int) (A : Option Addr) (c : Nat) (l : List A2) (w : World) (hL : Acts2 w w.heap.size A l) (hlen : l.length ≤ 9223372036854775807) :
    Calls Try.prog 3 #[.int .i64 vols, .int .i64 nd, .slice A l.length c] w fun e w' => e = .returned (.bool true) ∧ Below w.heap.size w w' := by
  by_cases hr : vols < 1 ∨ 5 < vols
  · have hcs : vols < 1 ∨ (¬ vols < 1 ∧ 5 < vols) := by omega
    clear hL
    rcases hcs with hneg | ⟨hneg, hbig⟩
    all_goals
      go_enter Try.func3, Try.ntmps3
      go_wp2_with fail
      refine (awake8_any w).mono ?_
      rintro e w1 ⟨rfl, hb1⟩
      go_wp2_with fail
      refine (awake8_any w1).mono ?_
      rintro e w2 ⟨rfl, hb2⟩
      have fin := Lib.hid (hb1.trans (hb2.mono hb1.size))
      clear hb1 hb2
      go_wp2
      go_ret
      exact ⟨rfl, fin.out⟩
  · obtain ⟨n, rfl⟩ : ∃ n : Nat, vols = (n : Int) := ⟨vols.toNat, by omega⟩
    have hn1 : 1 ≤ n := by omega
    have hn5 : n ≤ 5 := by omega
    clear hr
    obtain ⟨k3, hk3⟩ : ∃ k3 : Nat, max 0 (min nd 3) = (k3 : Int) := ⟨(max 0 (min nd 3)).toNat, by omega⟩
    have hk33 : k3 ≤ 3 := by omega
    have x1 : decide ((n : Int) < 1) = false := by simp; omega
    have x2 : decide ((5 : Int) < (n : Int)) = false := by simp; omega
    obtain ⟨M, hM, hmk⟩ := make_ints n (by omega)
    obtain ⟨G, hG⟩ : ∃ G, w.heap.size = G := ⟨_, rfl⟩
    have HACT : Hid (∀ k (hk : k < l.length), ∃ ad, A = some ad ∧ (∀ w', Below G w w' → ∀ j v, (a2cells l[k])[j]? = some v → w'.cell? ((ad.add (k * 2)).add j) = some v) ∧ (-9223372036854775808 ≤ l[k].2 ∧ l[k].2 ≤ 9223372036854775807)) := Lib.hid fun k hk => by rw [← hG]; exact hL.get hk
    clear hL
    go_enter Try.func3, Try.ntmps3
    go_upto_region 1 with fail
    go_wp2_with fail
    refine (awake8_any w).mono ?_
    rintro e w1 ⟨rfl, hb1⟩
    have hb1 : Below G w w1 := by rw [← hG]; exact hb1
    have hs1 : G ≤ w1.heap.size := by have := hb1.size; rw [hG] at this; exact this
    have hNW := new_zerosV n (by omega) w1.heap.size nd (w1.alloc (.cells M 3)) k3 hk3 ⟨M, hM, At.new _ _ _⟩
    have HM := Lib.hid hM
    have HNW := Lib.hid hNW
    have HB1 := Lib.hid hb1
    clear hNW hM hb1 hk3
    go_upto_region 3 with fail
    go_wp2_with fail
    refine HNW.out.mono ?_
    rintro e w2 ⟨g, v1, v2, gs, rfl, hgl, hlib, hvols, hb2⟩
    obtain ⟨sz, hvz, hlz⟩ := hvols
    have hsX : (w1.alloc (.cells M 3)).heap.size = w1.heap.size + 1 := by simp
    have hb2' : Below G w w2 := (HB1.out.alloc hs1 (.cells M 3)).trans (hb2.mono (by omega))
    have hs2 : G ≤ w2.heap.size := by have := hb2.size; omega
    obtain ⟨ds0, hds0⟩ : ∃ d, List.replicate k3 (Dr.no false) = d := ⟨_, rfl⟩
    have hod0 := new_od n k3
    have hhl0 := heldL_new n k3
    have hdl0 : (List.replicate k3 (Dr.no false)).length ≤ 3 := by simpa using hk33
    rw [hds0] at hod0 hhl0 hdl0 hlib
    have hal := (Below.refl w2.heap.size w2).alloc (Nat.le_refl _) (.cells M 3)
    have hos : OS w (w2.alloc (.cells M 3)) G g v1 v2 gs ds0 0 0 w2.heap.size (heldL n ds0) :=
      ⟨(hlib.less (by omega)).below hal, ⟨sz, (hvz.less (by omega)).below hal, hlz⟩, by rw [hhl0]; exact ⟨M, HM.out, At.new _ _ _⟩, hb2'.alloc hs2 _, hs2⟩
    have HOS := Lib.hid hos
    have HOD := Lib.hid hod0
    have HMK := Lib.hid hmk
    clear hos hod0 hhl0 hds0 hlib hvz hlz hb2 hb2' HNW HB1 hal
    go_upto_region 7 with fail
    clear hmk
    obtain ⟨kh0, hkh0⟩ : ∃ x, w2.heap.size = x := ⟨_, rfl⟩
    rw [hkh0] at HOS
    try rw [hkh0]
    generalize w2.alloc (.cells M 3) = w3 at *
    clear hkh0 hs2 hsX
    go_upto_region 8 with fail
    go_loopw [8, 9] (fun hs i wr => ∃ (k : Nat) (ds : List Dr) (mv mt : Int) (kh : Nat), k ≤ l.length ∧ k ≤ 40 ∧ i = .int .i64 (k : Int) ∧ hs = .slice (some ⟨kh, 0, none⟩) n n ∧ (0 ≤ mv ∧ mv ≤ (k : Int) ∧ 0 ≤ mt ∧ mt ≤ (k : Int)) ∧ ds.length ≤ 3 ∧ Hid (OD n ((k : Nat) : Int) ds) ∧ Hid (OS w wr G g v1 v2 gs ds mv mt kh (heldL n ds))) (fun _ i _ => 40 - (intOf i).toNat)
    case atStart => exact ⟨0, ds0, 0, 0, kh0, by omega, by omega, rfl, rfl, by omega, hdl0, HOD, HOS⟩
    case round =>
      clear HOD HOS
      obtain ⟨k, ds, mv, mt, kh, hk, hk40, rfl, rfl, hbd, hdl3, HOD0, HQ⟩ := hrel
      by_cases hlt : k < l.length ∧ k < 40
      · obtain ⟨hlt, h40⟩ := hlt
        have q1 : decide ((k : Int) < (l.length : Int)) = true := by simp; omega
        have q2 : decide ((k : Int) < 40) = true := by simp; omega
        obtain ⟨ad, rfl, hcl, hNb⟩ := HACT.out k hlt
        obtain ⟨KN, hKN⟩ : ∃ x, l[k] = x := ⟨_, rfl⟩
        rw [hKN] at hcl hNb
        obtain ⟨K, N⟩ := KN
        have hNb : -9223372036854775808 ≤ N ∧ N ≤ 9223372036854775807 := hNb
        have hca := hcl wr HQ.out.low
        have HCA := Lib.hid hca
        clear hKN
        have hI2 : (Try.prog.info? 28).map (·.size) = some 2 := by kernel_rfl
        have HI2 := Lib.hid hI2
        have hC1 : (#[.int .i64 K, .int .i64 N] : Array Value).all (·.oneCell') = true := by simp [Value.oneCell']
        have HC1 := Lib.hid hC1
        have HX := Lib.hid (At.new wr 28 #[.int .i64 0, .int .i64 0])
        clear hcl hca hI2 hC1
        go_upto_region 11 with (first | refine wpList_load_ad rfl 28 _ rfl (ad.add (k * 2)) rfl _ _ HCA.out Try.underlying28 rfl HI2.out ?_ | (refine wpList_store_whole rfl 28 _ _ rfl wr.heap.size #[.int .i64 K, .int .i64 N] rfl rfl 28 _ HX.out HI2.out rfl HC1.out ?_; intro w4 hZ4 hG4; replace hZ4 := Lib.hid hZ4; replace hG4 := Lib.hid hG4))
        have hb4 : Below wr.heap.size wr w4 := below_of_grownBy ((Below.refl _ wr).alloc (Nat.le_refl _) _) hG4.out (by simp) (Nat.le_refl _)
        have HQ0 := Lib.hid (HQ.out.grow hb4)
        have a0 : w4.cell? ⟨wr.heap.size, 0, none⟩ = some (.int .i64 K) := hZ4.out.cell 0
        have a1 : w4.cell? ⟨wr.heap.size, 1, none⟩ = some (.int .i64 N) := hZ4.out.cell 1
        have HZ0 := hZ4
        clear hb4 HQ HX HC1 HCA hG4 hZ4
        generalize wr.heap.size = X at *
        by_cases hK1 : K = 1
        · subst hK1
          have hM := mount_any HQ0.out.lib HQ0.out.size HQ0.out.here (by omega) ⟨by omega, by omega⟩ ⟨by omega, by omega⟩ N
          have hnum := mountF_num gs.length ds mv mt N
          have hod := (mount_od (n := gs.length) (by rw [hgl]; exact HOD0.out) (by omega) mv mt N)
          have hdl := (mountF_ok gs.length ds mv mt N).1
          unfold MountEnds at hM
          generalize mountF gs.length ds mv mt N = r at *
          obtain ⟨ri, re, dt, mvt, mtt⟩ := r
          simp only at hM hnum hod hdl
          obtain ⟨hod1, hod2⟩ := hod
          rw [hgl] at hod1
          have HOD : Hid (OD n ((k : Int) + 1) dt) := Lib.hid (hod1.more (by omega))
          have hle := heldL_eq (n := n) hod2
          have HM := Lib.hid hM
          have hbt : 0 ≤ mvt ∧ mvt ≤ (k : Int) + 1 ∧ 0 ≤ mtt ∧ mtt ≤ (k : Int) + 1 := by omega
          have hdl : dt.length ≤ 3 := by omega
          clear hM hod1 hod2
          go_wp2_with fail
          refine HM.out.mono ?_
          rintro e wt ⟨rfl, h5, s5⟩
          have HO : Hid (OS w wt G g v1 v2 gs dt mvt mtt kh (heldL n dt)) := Lib.hid (by rw [hle]; exact HQ0.out.shift h5 s5)
          clear h5 s5 HM HQ0 hle HOD0 HZ0 hnum
          have hmm := @run_makeMap Try.prog
          go_upto_region 33 with fail
          clear hmm
          obtain ⟨mb, hmb⟩ : ∃ mb, wt.heap.size = mb := ⟨_, rfl⟩
          have hsn : Seen (wt.alloc (.map #[] 0)) mb 0 (.map []) := ⟨by rw [← hmb]; exact World.ownsMap_made wt _ _ _, tidy_empty⟩
          have hGm : G ≤ mb := by rw [← hmb]; exact HO.out.size
          have hos := HO.out.grow ((Below.refl _ wt).alloc (Nat.le_refl _) (.map #[] 0))
          have HSN := Lib.hid hsn
          have HOS := Lib.hid hos
          clear hsn hos HO
          try rw [hmb]
          generalize wt.alloc (.map #[] 0) = wm at *
          clear hmb
          go_upto_region 34 with fail
          go_loopw [13, 115] (fun c i wr => ∃ (j : Nat) (D : DataW Unit), j ≤ n ∧ i = .int .i64 (j : Int) ∧ c = .int .i64 (inN dt j : Nat) ∧ Hid (Seen wr mb j D) ∧ Hid (∀ u, hasV D u = seenD dt j u) ∧ Hid (OS w wr G g v1 v2 gs dt mvt mtt kh (heldL n dt))) (fun _ i _ => n - (intOf i).toNat)
          case atStart => exact ⟨0, .map [], by omega, rfl, by simp [inN], HSN, Lib.hid fun u => by simp [seenD]; rfl, HOS⟩
          case round =>
            clear HSN HOS
            obtain ⟨j, D, hj, rfl, rfl, HS, HH, HQ⟩ := hrel
            have hnl := inN_le HOD.out j
            have hwl := workF_le dt
            by_cases hjn : j < n
            · have p0 : decide ((j : Int) < (n : Int)) = true := by simpa using hjn
              have hI := in_any HQ.out.lib (j : Int) (by omega)
              have hle := inF_le dt (j : Int)
              have hnx : inN dt (j + 1) = inN dt j + if inF dt (j : Int) = -1 then 0 else 1 := rfl
              have hso := fun (h : inF dt (j : Int) = -1) => heldS_out (ds := dt) (by omega : (j : Int) ≠ -1) h
              have hsp := heldS_pos (v := (j : Int)) fun d hd => (HOD.out.hold d hd).1
              have hgt := heldL_get dt hjn
              have hno := fun (i : Nat) (h : inF dt (j : Int) = (i : Int)) => seenD_not HOD.out h
              have hput := seen_put HS.out.tidy HH.out
              have HNO := Lib.hid hno
              have HPT := Lib.hid hput
              have HGT := Lib.hid hgt
              have HI := Lib.hid hI
              have HIF := Lib.hid hnx
              have hkey : keyOf Try.prog 3 (.int .i64 (inF dt (j : Int))) = some (.int .i64 (inF dt (j : Int))) := keyOf_int_mk Try.underlying3 (by simp [Lit.wf]; have e1 : IntKind.i64.min = -9223372036854775808 := rfl; have e2 : IntKind.i64.max = 9223372036854775807 := rfl; omega)
              have HKEY := Lib.hid hkey
              obtain ⟨hv, hhv⟩ : ∃ x, heldS dt (j : Int) = x := ⟨_, rfl⟩
              rw [hhv] at HGT hsp hso
              obtain ⟨fk, hfk⟩ : ∃ x, inF dt (j : Int) = x := ⟨_, rfl⟩
              rw [hfk] at HNO HPT HI HIF HKEY hle hso
              obtain ⟨cj, hcj⟩ : ∃ x, inN dt j = x := ⟨_, rfl⟩
              rw [hcj] at HIF hnl
              simp only [hcj]
              have HCJ := Lib.hid hcj
              clear hI hno hput hgt hnx hkey hhv hfk hcj
              go_upto_region 36 with fail
              go_wp2_with fail
              refine HI.out.mono ?_
              rintro e w7 ⟨rfl, hb7⟩
              have hq7 := HQ.out.grow hb7
              have hs7 := HS.out.of_block (hb7.block mb (by obtain ⟨⟨es, clock, hb, r⟩, ht⟩ := HS.out; exact (Array.getElem?_eq_some_iff.1 hb).1))
              have y1 : w7.cell? ⟨kh, j, none⟩ = some (.int .i64 hv) := hq7.held.cell HGT.out
              have HQ7 := Lib.hid hq7
              have HS7 := Lib.hid hs7
              clear hb7 hq7 hs7 HI HQ HS
              by_cases hk : fk = -1
              · have hv0 := hso hk
                subst hk
                subst hv0
                rw [if_pos rfl] at HIF
                go_upto_region 41 with fail
                go_wp2_with (at_mapUpdate; refine wpList_mapUpdate_own _ rfl _ _ _ 36 rfl 3 4 int_law Try.underlying36 (plainElem (H := Unit) Try.prog 4) mb j D rfl HS7.out.own (by unfold maxLen; omega) _ _ _ rfl rfl HKEY.out _ [] (plainElem_bool Try.underlying4 true) ?_; intro w8 hown8 hgrow8; replace hown8 := Lib.hid hown8; replace hgrow8 := Lib.hid hgrow8)
                have HS8 := Lib.hid (HS7.out.put _ hown8.out)
                have HQ8 := Lib.hid (HQ7.out.map HS7.out hGm hgrow8.out)
                clear hown8 hgrow8 HS7 HQ7
                go_wp2
                go_roundw
                case rel => exact ⟨j + 1, _, by omega, by go_num, by rw [HIF.out]; rfl, HS8, Lib.hid HPT.out, HQ8⟩
                case measure => simp [intOf] <;> omega
              · obtain ⟨fn, rfl⟩ : ∃ fn : Nat, fk = (fn : Int) := ⟨fk.toNat, by omega⟩
                rw [if_neg (by omega)] at HIF
                have hlk := HS7.out.look HKEY.out (by rw [HH.out]; exact HNO.out fn (by first | rfl | simp))
                have p1 : decide ((0 : Int) ≤ (fn : Int)) = true := by simp
                have p2 : decide (hv < 0) = false := by simpa using hsp
                have p3 : decide ((fn : Int) < 0) = false := by simp
                have hcw : IntKind.i64.wrap ((cj : Int) + 1) = (cj : Int) + 1 := IntWalk.i64_in _ ⟨by omega, by omega⟩
                by_cases hpos : 0 < hv
                · have p4 : decide (0 < hv) = true := by simpa using hpos
                  go_upto_region 41 with fail
                  go_wp2_with (at_mapUpdate; refine wpList_mapUpdate_own _ rfl _ _ _ 36 rfl 3 4 int_law Try.underlying36 (plainElem (H := Unit) Try.prog 4) mb j D rfl HS7.out.own (by unfold maxLen; omega) _ _ _ rfl rfl HKEY.out _ [] (plainElem_bool Try.underlying4 true) ?_; intro w8 hown8 hgrow8; replace hown8 := Lib.hid hown8; replace hgrow8 := Lib.hid hgrow8)
                  have HS8 := Lib.hid (HS7.out.put _ hown8.out)
                  have HQ8 := Lib.hid (HQ7.out.map HS7.out hGm hgrow8.out)
                  clear hown8 hgrow8 HS7 HQ7 hlk
                  go_wp2
                  go_roundw
                  case rel => exact ⟨j + 1, _, by omega, by go_num, by rw [HIF.out]; rfl, HS8, Lib.hid HPT.out, HQ8⟩
                  case measure => simp [intOf] <;> omega
                · have p4 : decide (0 < hv) = false := by simpa using hpos
                  go_upto_region 41 with fail
                  go_wp2_with (at_mapUpdate; refine wpList_mapUpdate_own _ rfl _ _ _ 36 rfl 3 4 int_law Try.underlying36 (plainElem (H := Unit) Try.prog 4) mb j D rfl HS7.out.own (by unfold maxLen; omega) _ _ _ rfl rfl HKEY.out _ [] (plainElem_bool Try.underlying4 true) ?_; intro w8 hown8 hgrow8; replace hown8 := Lib.hid hown8; replace hgrow8 := Lib.hid hgrow8)
                  have HS8 := Lib.hid (HS7.out.put _ hown8.out)
                  have HQ8 := Lib.hid (HQ7.out.map HS7.out hGm hgrow8.out)
                  clear hown8 hgrow8 HS7 HQ7 hlk
                  go_wp2
                  go_roundw
                  case rel => exact ⟨j + 1, _, by omega, by go_num, by rw [HIF.out]; rfl, HS8, Lib.hid HPT.out, HQ8⟩
                  case measure => simp [intOf] <;> omega
            · have p0 : decide ((j : Int) < (n : Int)) = false := by simpa using hjn
              obtain rfl : j = n := by omega
              have hWo := working_any HQ.out.lib (by omega)
              obtain ⟨cj, hcj⟩ : ∃ x, inN dt j = x := ⟨_, rfl⟩
              rw [hcj] at hnl
              simp only [hcj]
              obtain ⟨wf, hwf⟩ : ∃ x, workF dt = x := ⟨_, rfl⟩
              rw [hwf] at hWo hnl hwl
              have p1 : decide ((wf : Int) < (cj : Int)) = false := by simp; omega
              have p1n : decide (wf < cj) = false := by simp; omega
              have HWO := Lib.hid hWo
              clear hWo hcj hwf HS HH
              go_wp2_with fail
              refine HWO.out.mono ?_
              rintro e w9 ⟨rfl, hb9⟩
              have HQ9 := Lib.hid (HQ.out.grow hb9)
              clear hb9 HWO HQ
              go_wp2
              go_roundw
              case rel => exact ⟨k + 1, dt, mvt, mtt, kh, by omega, by omega, by go_num, rfl, hbt, by omega, by exact_mod_cast HOD, HQ9⟩
              case measure => simp [intOf] <;> omega
        · have t1 : (K == 1) = false := by simpa using hK1
          by_cases hK2 : K = 2
          · subst hK2
            have hnum := mountF_num gs.length ds mv mt N
            have hn2 := holdF_num gs.length ds mv mt N
            have hmo := (mount_od (n := gs.length) (by rw [hgl]; exact HOD0.out) (by omega) mv mt N).1
            have hM := hold_any HQ0.out.lib HQ0.out.size HQ0.out.here (by omega) ⟨by omega, by omega⟩ ⟨by omega, by omega⟩ N (fun d hd => by have := hmo.hold d hd; omega)
            have hod := hold_od (n := gs.length) (by rw [hgl]; exact HOD0.out) (by omega) mv mt N
            unfold HoldEnds at hM
            generalize mountF gs.length ds mv mt N = r0 at *
            generalize holdF gs.length ds mv mt N = r at *
            obtain ⟨ri, re, dt, mvt, mtt⟩ := r
            simp only at hM hn2 hod
            obtain ⟨hod1, hod2, hod3⟩ := hod
            rw [hgl] at hod1 hod2
            have HOD : Hid (OD n ((k : Int) + 1) dt) := Lib.hid hod1
            have HM := Lib.hid hM
            have hbt : 0 ≤ mvt ∧ mvt ≤ (k : Int) + 1 ∧ 0 ≤ mtt ∧ mtt ≤ (k : Int) + 1 := by omega
            have hdl : dt.length ≤ 3 := by omega
            clear hM hod1 hmo hn2 hnum r0
            by_cases he : re = 0
            · subst he
              obtain ⟨b1, b2⟩ := hod2 rfl
              obtain ⟨Nn, rfl⟩ : ∃ Nn : Nat, N = (Nn : Int) := ⟨N.toNat, by omega⟩
              have hNn : Nn < n := by omega
              have hle := heldL_set (n := n) (ds := ds) (ds' := dt) hNn 1 fun u hu => by rw [hod3 u hu]; simp
              have hsb := heldS_le HOD0.out (by omega) (u := (Nn : Int)) (by omega)
              have hsp := heldS_pos (v := (Nn : Int)) fun d hd => (HOD0.out.hold d hd).1
              have hgt := heldL_get ds hNn
              obtain ⟨hv, hhv⟩ : ∃ x, heldS ds (Nn : Int) = x := ⟨_, rfl⟩
              rw [hhv] at hle hsb hgt hsp
              have hww : IntKind.i64.wrap (hv + 1) = hv + 1 := IntWalk.i64_in _ ⟨by omega, by omega⟩
              have HGT := Lib.hid hgt
              have HLE := Lib.hid hle
              clear hod2 hod3 hgt hle hhv
              go_wp2_with fail
              refine HM.out.mono ?_
              rintro e w5 ⟨rfl, h5, s5⟩
              have ho5 := HQ0.out.shift h5 s5
              have z1 : w5.cell? ⟨X, 1, none⟩ = some (.int .i64 (Nn : Int)) := (shift_at HQ0.out.lib HZ0.out (by decide) (by decide) s5).cell 1
              have y1 : w5.cell? ⟨kh, Nn, none⟩ = some (.int .i64 hv) := ho5.held.cell HGT.out
              have y2 : w5.frozen? ⟨kh, Nn, none⟩ = false := ho5.held.frozen _
              have HO : Hid (OS w (w5.setCell ⟨kh, Nn, none⟩ (.int .i64 (hv + 1))) G g v1 v2 gs dt mvt mtt kh (heldL n dt)) := Lib.hid (by rw [HLE.out]; exact ho5.put Nn (hv + 1))
              clear h5 s5 HM HQ0 HOD0 HZ0 HGT HLE ho5 a0 a1
              go_upto_region 31 with fail
              generalize w5.setCell ⟨kh, Nn, none⟩ (.int .i64 (hv + 1)) = wt at *
              clear z1 y1 y2
              have hmm := @run_makeMap Try.prog
              go_upto_region 33 with fail
              clear hmm
              obtain ⟨mb, hmb⟩ : ∃ mb, wt.heap.size = mb := ⟨_, rfl⟩
              have hsn : Seen (wt.alloc (.map #[] 0)) mb 0 (.map []) := ⟨by rw [← hmb]; exact World.ownsMap_made wt _ _ _, tidy_empty⟩
              have hGm : G ≤ mb := by rw [← hmb]; exact HO.out.size
              have hos := HO.out.grow ((Below.refl _ wt).alloc (Nat.le_refl _) (.map #[] 0))
              have HSN := Lib.hid hsn
              have HOS := Lib.hid hos
              clear hsn hos HO
              try rw [hmb]
              generalize wt.alloc (.map #[] 0) = wm at *
              clear hmb
              go_upto_region 34 with fail
              go_loopw [13, 115] (fun c i wr => ∃ (j : Nat) (D : DataW Unit), j ≤ n ∧ i = .int .i64 (j : Int) ∧ c = .int .i64 (inN dt j : Nat) ∧ Hid (Seen wr mb j D) ∧ Hid (∀ u, hasV D u = seenD dt j u) ∧ Hid (OS w wr G g v1 v2 gs dt mvt mtt kh (heldL n dt))) (fun _ i _ => n - (intOf i).toNat)
              case atStart => exact ⟨0, .map [], by omega, rfl, by simp [inN], HSN, Lib.hid fun u => by simp [seenD]; rfl, HOS⟩
              case round =>
                clear HSN HOS
                obtain ⟨j, D, hj, rfl, rfl, HS, HH, HQ⟩ := hrel
                have hnl := inN_le HOD.out j
                have hwl := workF_le dt
                by_cases hjn : j < n
                · have p0 : decide ((j : Int) < (n : Int)) = true := by simpa using hjn
                  have hI := in_any HQ.out.lib (j : Int) (by omega)
                  have hle := inF_le dt (j : Int)
                  have hnx : inN dt (j + 1) = inN dt j + if inF dt (j : Int) = -1 then 0 else 1 := rfl
                  have hso := fun (h : inF dt (j : Int) = -1) => heldS_out (ds := dt) (by omega : (j : Int) ≠ -1) h
                  have hsp := heldS_pos (v := (j : Int)) fun d hd => (HOD.out.hold d hd).1
                  have hgt := heldL_get dt hjn
                  have hno := fun (i : Nat) (h : inF dt (j : Int) = (i : Int)) => seenD_not HOD.out h
                  have hput := seen_put HS.out.tidy HH.out
                  have HNO := Lib.hid hno
                  have HPT := Lib.hid hput
                  have HGT := Lib.hid hgt
                  have HI := Lib.hid hI
                  have HIF := Lib.hid hnx
                  have hkey : keyOf Try.prog 3 (.int .i64 (inF dt (j : Int))) = some (.int .i64 (inF dt (j : Int))) := keyOf_int_mk Try.underlying3 (by simp [Lit.wf]; have e1 : IntKind.i64.min = -9223372036854775808 := rfl; have e2 : IntKind.i64.max = 9223372036854775807 := rfl; omega)
                  have HKEY := Lib.hid hkey
                  obtain ⟨hv, hhv⟩ : ∃ x, heldS dt (j : Int) = x := ⟨_, rfl⟩
                  rw [hhv] at HGT hsp hso
                  obtain ⟨fk, hfk⟩ : ∃ x, inF dt (j : Int) = x := ⟨_, rfl⟩
                  rw [hfk] at HNO HPT HI HIF HKEY hle hso
                  obtain ⟨cj, hcj⟩ : ∃ x, inN dt j = x := ⟨_, rfl⟩
                  rw [hcj] at HIF hnl
                  simp only [hcj]
                  have HCJ := Lib.hid hcj
                  clear hI hno hput hgt hnx hkey hhv hfk hcj
                  go_upto_region 36 with fail
                  go_wp2_with fail
                  refine HI.out.mono ?_
                  rintro e w7 ⟨rfl, hb7⟩
                  have hq7 := HQ.out.grow hb7
                  have hs7 := HS.out.of_block (hb7.block mb (by obtain ⟨⟨es, clock, hb, r⟩, ht⟩ := HS.out; exact (Array.getElem?_eq_some_iff.1 hb).1))
                  have y1 : w7.cell? ⟨kh, j, none⟩ = some (.int .i64 hv) := hq7.held.cell HGT.out
                  have HQ7 := Lib.hid hq7
                  have HS7 := Lib.hid hs7
                  clear hb7 hq7 hs7 HI HQ HS
                  by_cases hk : fk = -1
                  · have hv0 := hso hk
                    subst hk
                    subst hv0
                    rw [if_pos rfl] at HIF
                    go_upto_region 41 with fail
                    go_wp2_with (at_mapUpdate; refine wpList_mapUpdate_own _ rfl _ _ _ 36 rfl 3 4 int_law Try.underlying36 (plainElem (H := Unit) Try.prog 4) mb j D rfl HS7.out.own (by unfold maxLen; omega) _ _ _ rfl rfl HKEY.out _ [] (plainElem_bool Try.underlying4 true) ?_; intro w8 hown8 hgrow8; replace hown8 := Lib.hid hown8; replace hgrow8 := Lib.hid hgrow8)
                    have HS8 := Lib.hid (HS7.out.put _ hown8.out)
                    have HQ8 := Lib.hid (HQ7.out.map HS7.out hGm hgrow8.out)
                    clear hown8 hgrow8 HS7 HQ7
                    go_wp2
                    go_roundw
                    case rel => exact ⟨j + 1, _, by omega, by go_num, by rw [HIF.out]; rfl, HS8, Lib.hid HPT.out, HQ8⟩
                    case measure => simp [intOf] <;> omega
                  · obtain ⟨fn, rfl⟩ : ∃ fn : Nat, fk = (fn : Int) := ⟨fk.toNat, by omega⟩
                    rw [if_neg (by omega)] at HIF
                    have hlk := HS7.out.look HKEY.out (by rw [HH.out]; exact HNO.out fn (by first | rfl | simp))
                    have p1 : decide ((0 : Int) ≤ (fn : Int)) = true := by simp
                    have p2 : decide (hv < 0) = false := by simpa using hsp
                    have p3 : decide ((fn : Int) < 0) = false := by simp
                    have hcw : IntKind.i64.wrap ((cj : Int) + 1) = (cj : Int) + 1 := IntWalk.i64_in _ ⟨by omega, by omega⟩
                    by_cases hpos : 0 < hv
                    · have p4 : decide (0 < hv) = true := by simpa using hpos
                      go_upto_region 41 with fail
                      go_wp2_with (at_mapUpdate; refine wpList_mapUpdate_own _ rfl _ _ _ 36 rfl 3 4 int_law Try.underlying36 (plainElem (H := Unit) Try.prog 4) mb j D rfl HS7.out.own (by unfold maxLen; omega) _ _ _ rfl rfl HKEY.out _ [] (plainElem_bool Try.underlying4 true) ?_; intro w8 hown8 hgrow8; replace hown8 := Lib.hid hown8; replace hgrow8 := Lib.hid hgrow8)
                      have HS8 := Lib.hid (HS7.out.put _ hown8.out)
                      have HQ8 := Lib.hid (HQ7.out.map HS7.out hGm hgrow8.out)
                      clear hown8 hgrow8 HS7 HQ7 hlk
                      go_wp2
                      go_roundw
                      case rel => exact ⟨j + 1, _, by omega, by go_num, by rw [HIF.out]; rfl, HS8, Lib.hid HPT.out, HQ8⟩
                      case measure => simp [intOf] <;> omega
                    · have p4 : decide (0 < hv) = false := by simpa using hpos
                      go_upto_region 41 with fail
                      go_wp2_with (at_mapUpdate; refine wpList_mapUpdate_own _ rfl _ _ _ 36 rfl 3 4 int_law Try.underlying36 (plainElem (H := Unit) Try.prog 4) mb j D rfl HS7.out.own (by unfold maxLen; omega) _ _ _ rfl rfl HKEY.out _ [] (plainElem_bool Try.underlying4 true) ?_; intro w8 hown8 hgrow8; replace hown8 := Lib.hid hown8; replace hgrow8 := Lib.hid hgrow8)
                      have HS8 := Lib.hid (HS7.out.put _ hown8.out)
                      have HQ8 := Lib.hid (HQ7.out.map HS7.out hGm hgrow8.out)
                      clear hown8 hgrow8 HS7 HQ7 hlk
                      go_wp2
                      go_roundw
                      case rel => exact ⟨j + 1, _, by omega, by go_num, by rw [HIF.out]; rfl, HS8, Lib.hid HPT.out, HQ8⟩
                      case measure => simp [intOf] <;> omega
                · have p0 : decide ((j : Int) < (n : Int)) = false := by simpa using hjn
                  obtain rfl : j = n := by omega
                  have hWo := working_any HQ.out.lib (by omega)
                  obtain ⟨cj, hcj⟩ : ∃ x, inN dt j = x := ⟨_, rfl⟩
                  rw [hcj] at hnl
                  simp only [hcj]
                  obtain ⟨wf, hwf⟩ : ∃ x, workF dt = x := ⟨_, rfl⟩
                  rw [hwf] at hWo hnl hwl
                  have p1 : decide ((wf : Int) < (cj : Int)) = false := by simp; omega
                  have p1n : decide (wf < cj) = false := by simp; omega
                  have HWO := Lib.hid hWo
                  clear hWo hcj hwf HS HH
                  go_wp2_with fail
                  refine HWO.out.mono ?_
                  rintro e w9 ⟨rfl, hb9⟩
                  have HQ9 := Lib.hid (HQ.out.grow hb9)
                  clear hb9 HWO HQ
                  go_wp2
                  go_roundw
                  case rel => exact ⟨k + 1, dt, mvt, mtt, kh, by omega, by omega, by go_num, rfl, hbt, by omega, by exact_mod_cast HOD, HQ9⟩
                  case measure => simp [intOf] <;> omega
            · have qe : (re == 0) = false := by simpa using he
              have hle := heldL_eq (n := n) (ds := ds) (ds' := dt) fun u hu => by rw [hod3 u hu]; simp [he]
              have HLE := Lib.hid hle
              clear hod2 hod3 hle he
              go_wp2_with fail
              refine HM.out.mono ?_
              rintro e wt ⟨rfl, h5, s5⟩
              have HO : Hid (OS w wt G g v1 v2 gs dt mvt mtt kh (heldL n dt)) := Lib.hid (by rw [HLE.out]; exact HQ0.out.shift h5 s5)
              clear h5 s5 HM HQ0 HOD0 HZ0 HLE a0 a1
              have hmm := @run_makeMap Try.prog
              go_upto_region 33 with fail
              clear hmm
              obtain ⟨mb, hmb⟩ : ∃ mb, wt.heap.size = mb := ⟨_, rfl⟩
              have hsn : Seen (wt.alloc (.map #[] 0)) mb 0 (.map []) := ⟨by rw [← hmb]; exact World.ownsMap_made wt _ _ _, tidy_empty⟩
              have hGm : G ≤ mb := by rw [← hmb]; exact HO.out.size
              have hos := HO.out.grow ((Below.refl _ wt).alloc (Nat.le_refl _) (.map #[] 0))
              have HSN := Lib.hid hsn
              have HOS := Lib.hid hos
              clear hsn hos HO
              try rw [hmb]
              generalize wt.alloc (.map #[] 0) = wm at *
              clear hmb
              go_upto_region 34 with fail
              go_loopw [13, 115] (fun c i wr => ∃ (j : Nat) (D : DataW Unit), j ≤ n ∧ i = .int .i64 (j : Int) ∧ c = .int .i64 (inN dt j : Nat) ∧ Hid (Seen wr mb j D) ∧ Hid (∀ u, hasV D u = seenD dt j u) ∧ Hid (OS w wr G g v1 v2 gs dt mvt mtt kh (heldL n dt))) (fun _ i _ => n - (intOf i).toNat)
              case atStart => exact ⟨0, .map [], by omega, rfl, by simp [inN], HSN, Lib.hid fun u => by simp [seenD]; rfl, HOS⟩
              case round =>
                clear HSN HOS
                obtain ⟨j, D, hj, rfl, rfl, HS, HH, HQ⟩ := hrel
                have hnl := inN_le HOD.out j
                have hwl := workF_le dt
                by_cases hjn : j < n
                · have p0 : decide ((j : Int) < (n : Int)) = true := by simpa using hjn
                  have hI := in_any HQ.out.lib (j : Int) (by omega)
                  have hle := inF_le dt (j : Int)
                  have hnx : inN dt (j + 1) = inN dt j + if inF dt (j : Int) = -1 then 0 else 1 := rfl
                  have hso := fun (h : inF dt (j : Int) = -1) => heldS_out (ds := dt) (by omega : (j : Int) ≠ -1) h
                  have hsp := heldS_pos (v := (j : Int)) fun d hd => (HOD.out.hold d hd).1
                  have hgt := heldL_get dt hjn
                  have hno := fun (i : Nat) (h : inF dt (j : Int) = (i : Int)) => seenD_not HOD.out h
                  have hput := seen_put HS.out.tidy HH.out
                  have HNO := Lib.hid hno
                  have HPT := Lib.hid hput
                  have HGT := Lib.hid hgt
                  have HI := Lib.hid hI
                  have HIF := Lib.hid hnx
                  have hkey : keyOf Try.prog 3 (.int .i64 (inF dt (j : Int))) = some (.int .i64 (inF dt (j : Int))) := keyOf_int_mk Try.underlying3 (by simp [Lit.wf]; have e1 : IntKind.i64.min = -9223372036854775808 := rfl; have e2 : IntKind.i64.max = 9223372036854775807 := rfl; omega)
                  have HKEY := Lib.hid hkey
                  obtain ⟨hv, hhv⟩ : ∃ x, heldS dt (j : Int) = x := ⟨_, rfl⟩
                  rw [hhv] at HGT hsp hso
                  obtain ⟨fk, hfk⟩ : ∃ x, inF dt (j : Int) = x := ⟨_, rfl⟩
                  rw [hfk] at HNO HPT HI HIF HKEY hle hso
                  obtain ⟨cj, hcj⟩ : ∃ x, inN dt j = x := ⟨_, rfl⟩
                  rw [hcj] at HIF hnl
                  simp only [hcj]
                  have HCJ := Lib.hid hcj
                  clear hI hno hput hgt hnx hkey hhv hfk hcj
                  go_upto_region 36 with fail
                  go_wp2_with fail
                  refine HI.out.mono ?_
                  rintro e w7 ⟨rfl, hb7⟩
                  have hq7 := HQ.out.grow hb7
                  have hs7 := HS.out.of_block (hb7.block mb (by obtain ⟨⟨es, clock, hb, r⟩, ht⟩ := HS.out; exact (Array.getElem?_eq_some_iff.1 hb).1))
                  have y1 : w7.cell? ⟨kh, j, none⟩ = some (.int .i64 hv) := hq7.held.cell HGT.out
                  have HQ7 := Lib.hid hq7
                  have HS7 := Lib.hid hs7
                  clear hb7 hq7 hs7 HI HQ HS
                  by_cases hk : fk = -1
                  · have hv0 := hso hk
                    subst hk
                    subst hv0
                    rw [if_pos rfl] at HIF
                    go_upto_region 41 with fail
                    go_wp2_with (at_mapUpdate; refine wpList_mapUpdate_own _ rfl _ _ _ 36 rfl 3 4 int_law Try.underlying36 (plainElem (H := Unit) Try.prog 4) mb j D rfl HS7.out.own (by unfold maxLen; omega) _ _ _ rfl rfl HKEY.out _ [] (plainElem_bool Try.underlying4 true) ?_; intro w8 hown8 hgrow8; replace hown8 := Lib.hid hown8; replace hgrow8 := Lib.hid hgrow8)
                    have HS8 := Lib.hid (HS7.out.put _ hown8.out)
                    have HQ8 := Lib.hid (HQ7.out.map HS7.out hGm hgrow8.out)
                    clear hown8 hgrow8 HS7 HQ7
                    go_wp2
                    go_roundw
                    case rel => exact ⟨j + 1, _, by omega, by go_num, by rw [HIF.out]; rfl, HS8, Lib.hid HPT.out, HQ8⟩
                    case measure => simp [intOf] <;> omega
                  · obtain ⟨fn, rfl⟩ : ∃ fn : Nat, fk = (fn : Int) := ⟨fk.toNat, by omega⟩
                    rw [if_neg (by omega)] at HIF
                    have hlk := HS7.out.look HKEY.out (by rw [HH.out]; exact HNO.out fn (by first | rfl | simp))
                    have p1 : decide ((0 : Int) ≤ (fn : Int)) = true := by simp
                    have p2 : decide (hv < 0) = false := by simpa using hsp
                    have p3 : decide ((fn : Int) < 0) = false := by simp
                    have hcw : IntKind.i64.wrap ((cj : Int) + 1) = (cj : Int) + 1 := IntWalk.i64_in _ ⟨by omega, by omega⟩
                    by_cases hpos : 0 < hv
                    · have p4 : decide (0 < hv) = true := by simpa using hpos
                      go_upto_region 41 with fail
                      go_wp2_with (at_mapUpdate; refine wpList_mapUpdate_own _ rfl _ _ _ 36 rfl 3 4 int_law Try.underlying36 (plainElem (H := Unit) Try.prog 4) mb j D rfl HS7.out.own (by unfold maxLen; omega) _ _ _ rfl rfl HKEY.out _ [] (plainElem_bool Try.underlying4 true) ?_; intro w8 hown8 hgrow8; replace hown8 := Lib.hid hown8; replace hgrow8 := Lib.hid hgrow8)
                      have HS8 := Lib.hid (HS7.out.put _ hown8.out)
                      have HQ8 := Lib.hid (HQ7.out.map HS7.out hGm hgrow8.out)
                      clear hown8 hgrow8 HS7 HQ7 hlk
                      go_wp2
                      go_roundw
                      case rel => exact ⟨j + 1, _, by omega, by go_num, by rw [HIF.out]; rfl, HS8, Lib.hid HPT.out, HQ8⟩
                      case measure => simp [intOf] <;> omega
                    · have p4 : decide (0 < hv) = false := by simpa using hpos
                      go_upto_region 41 with fail
                      go_wp2_with (at_mapUpdate; refine wpList_mapUpdate_own _ rfl _ _ _ 36 rfl 3 4 int_law Try.underlying36 (plainElem (H := Unit) Try.prog 4) mb j D rfl HS7.out.own (by unfold maxLen; omega) _ _ _ rfl rfl HKEY.out _ [] (plainElem_bool Try.underlying4 true) ?_; intro w8 hown8 hgrow8; replace hown8 := Lib.hid hown8; replace hgrow8 := Lib.hid hgrow8)
                      have HS8 := Lib.hid (HS7.out.put _ hown8.out)
                      have HQ8 := Lib.hid (HQ7.out.map HS7.out hGm hgrow8.out)
                      clear hown8 hgrow8 HS7 HQ7 hlk
                      go_wp2
                      go_roundw
                      case rel => exact ⟨j + 1, _, by omega, by go_num, by rw [HIF.out]; rfl, HS8, Lib.hid HPT.out, HQ8⟩
                      case measure => simp [intOf] <;> omega
                · have p0 : decide ((j : Int) < (n : Int)) = false := by simpa using hjn
                  obtain rfl : j = n := by omega
                  have hWo := working_any HQ.out.lib (by omega)
                  obtain ⟨cj, hcj⟩ : ∃ x, inN dt j = x := ⟨_, rfl⟩
                  rw [hcj] at hnl
                  simp only [hcj]
                  obtain ⟨wf, hwf⟩ : ∃ x, workF dt = x := ⟨_, rfl⟩
                  rw [hwf] at hWo hnl hwl
                  have p1 : decide ((wf : Int) < (cj : Int)) = false := by simp; omega
                  have p1n : decide (wf < cj) = false := by simp; omega
                  have HWO := Lib.hid hWo
                  clear hWo hcj hwf HS HH
                  go_wp2_with fail
                  refine HWO.out.mono ?_
                  rintro e w9 ⟨rfl, hb9⟩
                  have HQ9 := Lib.hid (HQ.out.grow hb9)
                  clear hb9 HWO HQ
                  go_wp2
                  go_roundw
                  case rel => exact ⟨k + 1, dt, mvt, mtt, kh, by omega, by omega, by go_num, rfl, hbt, by omega, by exact_mod_cast HOD, HQ9⟩
                  case measure => simp [intOf] <;> omega
          · have t2 : (K == 2) = false := by simpa using hK2
            by_cases hK3 : K = 3
            · subst hK3
              have hM := release_any HQ0.out.lib (by omega) N (fun d hd => by have := HOD0.out.hold d hd; omega)
              have hod := rel_od (n := gs.length) (by rw [hgl]; exact HOD0.out) N
              have hdl := relF_len ds N
              generalize relF ds N = r at *
              obtain ⟨re, dt⟩ := r
              simp only at hM hod hdl
              obtain ⟨hod1, hod2, hod3⟩ := hod
              rw [hgl] at hod1 hod2
              have HOD : Hid (OD n ((k : Int) + 1) dt) := Lib.hid (hod1.more (by omega))
              have HM := Lib.hid hM
              have hbt0 : 0 ≤ mv ∧ mv ≤ (k : Int) + 1 ∧ 0 ≤ mt ∧ mt ≤ (k : Int) + 1 := by omega
              have hdl : dt.length ≤ 3 := by omega
              obtain ⟨mvt, hmvt⟩ : ∃ d, mv = d := ⟨_, rfl⟩
              obtain ⟨mtt, hmtt⟩ : ∃ d, mt = d := ⟨_, rfl⟩
              have hbt : 0 ≤ mvt ∧ mvt ≤ (k : Int) + 1 ∧ 0 ≤ mtt ∧ mtt ≤ (k : Int) + 1 := by rw [← hmvt, ← hmtt]; exact hbt0
              have HEQ := Lib.hid (And.intro hmvt hmtt)
              clear hM hod1 hmvt hmtt
              by_cases he : re = 0
              · subst he
                obtain ⟨b1, b2⟩ := hod2 rfl
                obtain ⟨Nn, rfl⟩ : ∃ Nn : Nat, N = (Nn : Int) := ⟨N.toNat, by omega⟩
                have hNn : Nn < n := by omega
                have hle := heldL_set (n := n) (ds := ds) (ds' := dt) hNn (-1) fun u hu => by rw [hod3 u hu]; by_cases e : u = (Nn : Int) <;> simp [e] <;> omega
                have hsb := heldS_le HOD0.out (by omega) (u := (Nn : Int)) (by omega)
                have hsp := heldS_pos (v := (Nn : Int)) fun d hd => (HOD0.out.hold d hd).1
                have hgt := heldL_get ds hNn
                obtain ⟨hv, hhv⟩ : ∃ x, heldS ds (Nn : Int) = x := ⟨_, rfl⟩
                rw [hhv] at hle hsb hgt hsp
                rw [show hv + -1 = hv - 1 by omega] at hle
                have hww : IntKind.i64.wrap (hv - 1) = hv - 1 := IntWalk.i64_in _ ⟨by omega, by omega⟩
                have HGT := Lib.hid hgt
                have HLE := Lib.hid hle
                clear hod2 hod3 hgt hle hhv
                go_wp2_with fail
                refine HM.out.mono ?_
                rintro e w5 ⟨rfl, h5, s5⟩
                have ho5 := HQ0.out.shift h5 s5
                have z1 : w5.cell? ⟨X, 1, none⟩ = some (.int .i64 (Nn : Int)) := (shift_at HQ0.out.lib HZ0.out (by decide) (by decide) s5).cell 1
                have y1 : w5.cell? ⟨kh, Nn, none⟩ = some (.int .i64 hv) := ho5.held.cell HGT.out
                have y2 : w5.frozen? ⟨kh, Nn, none⟩ = false := ho5.held.frozen _
                have HO : Hid (OS w (w5.setCell ⟨kh, Nn, none⟩ (.int .i64 (hv - 1))) G g v1 v2 gs dt mvt mtt kh (heldL n dt)) := Lib.hid (by rw [HLE.out, ← HEQ.out.1, ← HEQ.out.2]; exact ho5.put Nn (hv - 1))
                clear h5 s5 HM HQ0 HOD0 HZ0 HGT HLE ho5 a0 a1
                go_upto_region 31 with fail
                generalize w5.setCell ⟨kh, Nn, none⟩ (.int .i64 (hv - 1)) = wt at *
                clear z1 y1 y2
                have hmm := @run_makeMap Try.prog
                go_upto_region 33 with fail
                clear hmm
                obtain ⟨mb, hmb⟩ : ∃ mb, wt.heap.size = mb := ⟨_, rfl⟩
                have hsn : Seen (wt.alloc (.map #[] 0)) mb 0 (.map []) := ⟨by rw [← hmb]; exact World.ownsMap_made wt _ _ _, tidy_empty⟩
                have hGm : G ≤ mb := by rw [← hmb]; exact HO.out.size
                have hos := HO.out.grow ((Below.refl _ wt).alloc (Nat.le_refl _) (.map #[] 0))
                have HSN := Lib.hid hsn
                have HOS := Lib.hid hos
                clear hsn hos HO
                try rw [hmb]
                generalize wt.alloc (.map #[] 0) = wm at *
                clear hmb
                go_upto_region 34 with fail
                go_loopw [13, 115] (fun c i wr => ∃ (j : Nat) (D : DataW Unit), j ≤ n ∧ i = .int .i64 (j : Int) ∧ c = .int .i64 (inN dt j : Nat) ∧ Hid (Seen wr mb j D) ∧ Hid (∀ u, hasV D u = seenD dt j u) ∧ Hid (OS w wr G g v1 v2 gs dt mvt mtt kh (heldL n dt))) (fun _ i _ => n - (intOf i).toNat)
                case atStart => exact ⟨0, .map [], by omega, rfl, by simp [inN], HSN, Lib.hid fun u => by simp [seenD]; rfl, HOS⟩
                case round =>
                  clear HSN HOS
                  obtain ⟨j, D, hj, rfl, rfl, HS, HH, HQ⟩ := hrel
                  have hnl := inN_le HOD.out j
                  have hwl := workF_le dt
                  by_cases hjn : j < n
                  · have p0 : decide ((j : Int) < (n : Int)) = true := by simpa using hjn
                    have hI := in_any HQ.out.lib (j : Int) (by omega)
                    have hle := inF_le dt (j : Int)
                    have hnx : inN dt (j + 1) = inN dt j + if inF dt (j : Int) = -1 then 0 else 1 := rfl
                    have hso := fun (h : inF dt (j : Int) = -1) => heldS_out (ds := dt) (by omega : (j : Int) ≠ -1) h
                    have hsp := heldS_pos (v := (j : Int)) fun d hd => (HOD.out.hold d hd).1
                    have hgt := heldL_get dt hjn
                    have hno := fun (i : Nat) (h : inF dt (j : Int) = (i : Int)) => seenD_not HOD.out h
                    have hput := seen_put HS.out.tidy HH.out
                    have HNO := Lib.hid hno
                    have HPT := Lib.hid hput
                    have HGT := Lib.hid hgt
                    have HI := Lib.hid hI
                    have HIF := Lib.hid hnx
                    have hkey : keyOf Try.prog 3 (.int .i64 (inF dt (j : Int))) = some (.int .i64 (inF dt (j : Int))) := keyOf_int_mk Try.underlying3 (by simp [Lit.wf]; have e1 : IntKind.i64.min = -9223372036854775808 := rfl; have e2 : IntKind.i64.max = 9223372036854775807 := rfl; omega)
                    have HKEY := Lib.hid hkey
                    obtain ⟨hv, hhv⟩ : ∃ x, heldS dt (j : Int) = x := ⟨_, rfl⟩
                    rw [hhv] at HGT hsp hso
                    obtain ⟨fk, hfk⟩ : ∃ x, inF dt (j : Int) = x := ⟨_, rfl⟩
                    rw [hfk] at HNO HPT HI HIF HKEY hle hso
                    obtain ⟨cj, hcj⟩ : ∃ x, inN dt j = x := ⟨_, rfl⟩
                    rw [hcj] at HIF hnl
                    simp only [hcj]
                    have HCJ := Lib.hid hcj
                    clear hI hno hput hgt hnx hkey hhv hfk hcj
                    go_upto_region 36 with fail
                    go_wp2_with fail
                    refine HI.out.mono ?_
                    rintro e w7 ⟨rfl, hb7⟩
                    have hq7 := HQ.out.grow hb7
                    have hs7 := HS.out.of_block (hb7.block mb (by obtain ⟨⟨es, clock, hb, r⟩, ht⟩ := HS.out; exact (Array.getElem?_eq_some_iff.1 hb).1))
                    have y1 : w7.cell? ⟨kh, j, none⟩ = some (.int .i64 hv) := hq7.held.cell HGT.out
                    have HQ7 := Lib.hid hq7
                    have HS7 := Lib.hid hs7
                    clear hb7 hq7 hs7 HI HQ HS
                    by_cases hk : fk = -1
                    · have hv0 := hso hk
                      subst hk
                      subst hv0
                      rw [if_pos rfl] at HIF
                      go_upto_region 41 with fail
                      go_wp2_with (at_mapUpdate; refine wpList_mapUpdate_own _ rfl _ _ _ 36 rfl 3 4 int_law Try.underlying36 (plainElem (H := Unit) Try.prog 4) mb j D rfl HS7.out.own (by unfold maxLen; omega) _ _ _ rfl rfl HKEY.out _ [] (plainElem_bool Try.underlying4 true) ?_; intro w8 hown8 hgrow8; replace hown8 := Lib.hid hown8; replace hgrow8 := Lib.hid hgrow8)
                      have HS8 := Lib.hid (HS7.out.put _ hown8.out)
                      have HQ8 := Lib.hid (HQ7.out.map HS7.out hGm hgrow8.out)
                      clear hown8 hgrow8 HS7 HQ7
                      go_wp2
                      go_roundw
                      case rel => exact ⟨j + 1, _, by omega, by go_num, by rw [HIF.out]; rfl, HS8, Lib.hid HPT.out, HQ8⟩
                      case measure => simp [intOf] <;> omega
                    · obtain ⟨fn, rfl⟩ : ∃ fn : Nat, fk = (fn : Int) := ⟨fk.toNat, by omega⟩
                      rw [if_neg (by omega)] at HIF
                      have hlk := HS7.out.look HKEY.out (by rw [HH.out]; exact HNO.out fn (by first | rfl | simp))
                      have p1 : decide ((0 : Int) ≤ (fn : Int)) = true := by simp
                      have p2 : decide (hv < 0) = false := by simpa using hsp
                      have p3 : decide ((fn : Int) < 0) = false := by simp
                      have hcw : IntKind.i64.wrap ((cj : Int) + 1) = (cj : Int) + 1 := IntWalk.i64_in _ ⟨by omega, by omega⟩
                      by_cases hpos : 0 < hv
                      · have p4 : decide (0 < hv) = true := by simpa using hpos
                        go_upto_region 41 with fail
                        go_wp2_with (at_mapUpdate; refine wpList_mapUpdate_own _ rfl _ _ _ 36 rfl 3 4 int_law Try.underlying36 (plainElem (H := Unit) Try.prog 4) mb j D rfl HS7.out.own (by unfold maxLen; omega) _ _ _ rfl rfl HKEY.out _ [] (plainElem_bool Try.underlying4 true) ?_; intro w8 hown8 hgrow8; replace hown8 := Lib.hid hown8; replace hgrow8 := Lib.hid hgrow8)
                        have HS8 := Lib.hid (HS7.out.put _ hown8.out)
                        have HQ8 := Lib.hid (HQ7.out.map HS7.out hGm hgrow8.out)
                        clear hown8 hgrow8 HS7 HQ7 hlk
                        go_wp2
                        go_roundw
                        case rel => exact ⟨j + 1, _, by omega, by go_num, by rw [HIF.out]; rfl, HS8, Lib.hid HPT.out, HQ8⟩
                        case measure => simp [intOf] <;> omega
                      · have p4 : decide (0 < hv) = false := by simpa using hpos
                        go_upto_region 41 with fail
                        go_wp2_with (at_mapUpdate; refine wpList_mapUpdate_own _ rfl _ _ _ 36 rfl 3 4 int_law Try.underlying36 (plainElem (H := Unit) Try.prog 4) mb j D rfl HS7.out.own (by unfold maxLen; omega) _ _ _ rfl rfl HKEY.out _ [] (plainElem_bool Try.underlying4 true) ?_; intro w8 hown8 hgrow8; replace hown8 := Lib.hid hown8; replace hgrow8 := Lib.hid hgrow8)
                        have HS8 := Lib.hid (HS7.out.put _ hown8.out)
                        have HQ8 := Lib.hid (HQ7.out.map HS7.out hGm hgrow8.out)
                        clear hown8 hgrow8 HS7 HQ7 hlk
                        go_wp2
                        go_roundw
                        case rel => exact ⟨j + 1, _, by omega, by go_num, by rw [HIF.out]; rfl, HS8, Lib.hid HPT.out, HQ8⟩
                        case measure => simp [intOf] <;> omega
                  · have p0 : decide ((j : Int) < (n : Int)) = false := by simpa using hjn
                    obtain rfl : j = n := by omega
                    have hWo := working_any HQ.out.lib (by omega)
                    obtain ⟨cj, hcj⟩ : ∃ x, inN dt j = x := ⟨_, rfl⟩
                    rw [hcj] at hnl
                    simp only [hcj]
                    obtain ⟨wf, hwf⟩ : ∃ x, workF dt = x := ⟨_, rfl⟩
                    rw [hwf] at hWo hnl hwl
                    have p1 : decide ((wf : Int) < (cj : Int)) = false := by simp; omega
                    have p1n : decide (wf < cj) = false := by simp; omega
                    have HWO := Lib.hid hWo
                    clear hWo hcj hwf HS HH
                    go_wp2_with fail
                    refine HWO.out.mono ?_
                    rintro e w9 ⟨rfl, hb9⟩
                    have HQ9 := Lib.hid (HQ.out.grow hb9)
                    clear hb9 HWO HQ
                    go_wp2
                    go_roundw
                    case rel => exact ⟨k + 1, dt, mvt, mtt, kh, by omega, by omega, by go_num, rfl, hbt, by omega, by exact_mod_cast HOD, HQ9⟩
                    case measure => simp [intOf] <;> omega
              · have qe : (re == 0) = false := by simpa using he
                have hle := heldL_eq (n := n) (ds := ds) (ds' := dt) fun u hu => by rw [hod3 u hu]; simp [he]
                have HLE := Lib.hid hle
                clear hod2 hod3 hle he
                go_wp2_with fail
                refine HM.out.mono ?_
                rintro e wt ⟨rfl, h5, s5⟩
                have HO : Hid (OS w wt G g v1 v2 gs dt mvt mtt kh (heldL n dt)) := Lib.hid (by rw [HLE.out, ← HEQ.out.1, ← HEQ.out.2]; exact HQ0.out.shift h5 s5)
                clear h5 s5 HM HQ0 HOD0 HZ0 HLE a0 a1
                have hmm := @run_makeMap Try.prog
                go_upto_region 33 with fail
                clear hmm
                obtain ⟨mb, hmb⟩ : ∃ mb, wt.heap.size = mb := ⟨_, rfl⟩
                have hsn : Seen (wt.alloc (.map #[] 0)) mb 0 (.map []) := ⟨by rw [← hmb]; exact World.ownsMap_made wt _ _ _, tidy_empty⟩
                have hGm : G ≤ mb := by rw [← hmb]; exact HO.out.size
                have hos := HO.out.grow ((Below.refl _ wt).alloc (Nat.le_refl _) (.map #[] 0))
                have HSN := Lib.hid hsn
                have HOS := Lib.hid hos
                clear hsn hos HO
                try rw [hmb]
                generalize wt.alloc (.map #[] 0) = wm at *
                clear hmb
                go_upto_region 34 with fail
                go_loopw [13, 115] (fun c i wr => ∃ (j : Nat) (D : DataW Unit), j ≤ n ∧ i = .int .i64 (j : Int) ∧ c = .int .i64 (inN dt j : Nat) ∧ Hid (Seen wr mb j D) ∧ Hid (∀ u, hasV D u = seenD dt j u) ∧ Hid (OS w wr G g v1 v2 gs dt mvt mtt kh (heldL n dt))) (fun _ i _ => n - (intOf i).toNat)
                case atStart => exact ⟨0, .map [], by omega, rfl, by simp [inN], HSN, Lib.hid fun u => by simp [seenD]; rfl, HOS⟩
                case round =>
                  clear HSN HOS
                  obtain ⟨j, D, hj, rfl, rfl, HS, HH, HQ⟩ := hrel
                  have hnl := inN_le HOD.out j
                  have hwl := workF_le dt
                  by_cases hjn : j < n
                  · have p0 : decide ((j : Int) < (n : Int)) = true := by simpa using hjn
                    have hI := in_any HQ.out.lib (j : Int) (by omega)
                    have hle := inF_le dt (j : Int)
                    have hnx : inN dt (j + 1) = inN dt j + if inF dt (j : Int) = -1 then 0 else 1 := rfl
                    have hso := fun (h : inF dt (j : Int) = -1) => heldS_out (ds := dt) (by omega : (j : Int) ≠ -1) h
                    have hsp := heldS_pos (v := (j : Int)) fun d hd => (HOD.out.hold d hd).1
                    have hgt := heldL_get dt hjn
                    have hno := fun (i : Nat) (h : inF dt (j : Int) = (i : Int)) => seenD_not HOD.out h
                    have hput := seen_put HS.out.tidy HH.out
                    have HNO := Lib.hid hno
                    have HPT := Lib.hid hput
                    have HGT := Lib.hid hgt
                    have HI := Lib.hid hI
                    have HIF := Lib.hid hnx
                    have hkey : keyOf Try.prog 3 (.int .i64 (inF dt (j : Int))) = some (.int .i64 (inF dt (j : Int))) := keyOf_int_mk Try.underlying3 (by simp [Lit.wf]; have e1 : IntKind.i64.min = -9223372036854775808 := rfl; have e2 : IntKind.i64.max = 9223372036854775807 := rfl; omega)
                    have HKEY := Lib.hid hkey
                    obtain ⟨hv, hhv⟩ : ∃ x, heldS dt (j : Int) = x := ⟨_, rfl⟩
                    rw [hhv] at HGT hsp hso
                    obtain ⟨fk, hfk⟩ : ∃ x, inF dt (j : Int) = x := ⟨_, rfl⟩
                    rw [hfk] at HNO HPT HI HIF HKEY hle hso
                    obtain ⟨cj, hcj⟩ : ∃ x, inN dt j = x := ⟨_, rfl⟩
                    rw [hcj] at HIF hnl
                    simp only [hcj]
                    have HCJ := Lib.hid hcj
                    clear hI hno hput hgt hnx hkey hhv hfk hcj
                    go_upto_region 36 with fail
                    go_wp2_with fail
                    refine HI.out.mono ?_
                    rintro e w7 ⟨rfl, hb7⟩
                    have hq7 := HQ.out.grow hb7
                    have hs7 := HS.out.of_block (hb7.block mb (by obtain ⟨⟨es, clock, hb, r⟩, ht⟩ := HS.out; exact (Array.getElem?_eq_some_iff.1 hb).1))
                    have y1 : w7.cell? ⟨kh, j, none⟩ = some (.int .i64 hv) := hq7.held.cell HGT.out
                    have HQ7 := Lib.hid hq7
                    have HS7 := Lib.hid hs7
                    clear hb7 hq7 hs7 HI HQ HS
                    by_cases hk : fk = -1
                    · have hv0 := hso hk
                      subst hk
                      subst hv0
                      rw [if_pos rfl] at HIF
                      go_upto_region 41 with fail
                      go_wp2_with (at_mapUpdate; refine wpList_mapUpdate_own _ rfl _ _ _ 36 rfl 3 4 int_law Try.underlying36 (plainElem (H := Unit) Try.prog 4) mb j D rfl HS7.out.own (by unfold maxLen; omega) _ _ _ rfl rfl HKEY.out _ [] (plainElem_bool Try.underlying4 true) ?_; intro w8 hown8 hgrow8; replace hown8 := Lib.hid hown8; replace hgrow8 := Lib.hid hgrow8)
                      have HS8 := Lib.hid (HS7.out.put _ hown8.out)
                      have HQ8 := Lib.hid (HQ7.out.map HS7.out hGm hgrow8.out)
                      clear hown8 hgrow8 HS7 HQ7
                      go_wp2
                      go_roundw
                      case rel => exact ⟨j + 1, _, by omega, by go_num, by rw [HIF.out]; rfl, HS8, Lib.hid HPT.out, HQ8⟩
                      case measure => simp [intOf] <;> omega
                    · obtain ⟨fn, rfl⟩ : ∃ fn : Nat, fk = (fn : Int) := ⟨fk.toNat, by omega⟩
                      rw [if_neg (by omega)] at HIF
                      have hlk := HS7.out.look HKEY.out (by rw [HH.out]; exact HNO.out fn (by first | rfl | simp))
                      have p1 : decide ((0 : Int) ≤ (fn : Int)) = true := by simp
                      have p2 : decide (hv < 0) = false := by simpa using hsp
                      have p3 : decide ((fn : Int) < 0) = false := by simp
                      have hcw : IntKind.i64.wrap ((cj : Int) + 1) = (cj : Int) + 1 := IntWalk.i64_in _ ⟨by omega, by omega⟩
                      by_cases hpos : 0 < hv
                      · have p4 : decide (0 < hv) = true := by simpa using hpos
                        go_upto_region 41 with fail
                        go_wp2_with (at_mapUpdate; refine wpList_mapUpdate_own _ rfl _ _ _ 36 rfl 3 4 int_law Try.underlying36 (plainElem (H := Unit) Try.prog 4) mb j D rfl HS7.out.own (by unfold maxLen; omega) _ _ _ rfl rfl HKEY.out _ [] (plainElem_bool Try.underlying4 true) ?_; intro w8 hown8 hgrow8; replace hown8 := Lib.hid hown8; replace hgrow8 := Lib.hid hgrow8)
                        have HS8 := Lib.hid (HS7.out.put _ hown8.out)
                        have HQ8 := Lib.hid (HQ7.out.map HS7.out hGm hgrow8.out)
                        clear hown8 hgrow8 HS7 HQ7 hlk
                        go_wp2
                        go_roundw
                        case rel => exact ⟨j + 1, _, by omega, by go_num, by rw [HIF.out]; rfl, HS8, Lib.hid HPT.out, HQ8⟩
                        case measure => simp [intOf] <;> omega
                      · have p4 : decide (0 < hv) = false := by simpa using hpos
                        go_upto_region 41 with fail
                        go_wp2_with (at_mapUpdate; refine wpList_mapUpdate_own _ rfl _ _ _ 36 rfl 3 4 int_law Try.underlying36 (plainElem (H := Unit) Try.prog 4) mb j D rfl HS7.out.own (by unfold maxLen; omega) _ _ _ rfl rfl HKEY.out _ [] (plainElem_bool Try.underlying4 true) ?_; intro w8 hown8 hgrow8; replace hown8 := Lib.hid hown8; replace hgrow8 := Lib.hid hgrow8)
                        have HS8 := Lib.hid (HS7.out.put _ hown8.out)
                        have HQ8 := Lib.hid (HQ7.out.map HS7.out hGm hgrow8.out)
                        clear hown8 hgrow8 HS7 HQ7 hlk
                        go_wp2
                        go_roundw
                        case rel => exact ⟨j + 1, _, by omega, by go_num, by rw [HIF.out]; rfl, HS8, Lib.hid HPT.out, HQ8⟩
                        case measure => simp [intOf] <;> omega
                  · have p0 : decide ((j : Int) < (n : Int)) = false := by simpa using hjn
                    obtain rfl : j = n := by omega
                    have hWo := working_any HQ.out.lib (by omega)
                    obtain ⟨cj, hcj⟩ : ∃ x, inN dt j = x := ⟨_, rfl⟩
                    rw [hcj] at hnl
                    simp only [hcj]
                    obtain ⟨wf, hwf⟩ : ∃ x, workF dt = x := ⟨_, rfl⟩
                    rw [hwf] at hWo hnl hwl
                    have p1 : decide ((wf : Int) < (cj : Int)) = false := by simp; omega
                    have p1n : decide (wf < cj) = false := by simp; omega
                    have HWO := Lib.hid hWo
                    clear hWo hcj hwf HS HH
                    go_wp2_with fail
                    refine HWO.out.mono ?_
                    rintro e w9 ⟨rfl, hb9⟩
                    have HQ9 := Lib.hid (HQ.out.grow hb9)
                    clear hb9 HWO HQ
                    go_wp2
                    go_roundw
                    case rel => exact ⟨k + 1, dt, mvt, mtt, kh, by omega, by omega, by go_num, rfl, hbt, by omega, by exact_mod_cast HOD, HQ9⟩
                    case measure => simp [intOf] <;> omega
            · have t3 : (K == 3) = false := by simpa using hK3
              by_cases hK4 : K = 4
              · subst hK4
                have HQZ : Hid (OS w w4 G g v1 v2 gs ds mv mt kh (zeroed n ds N 0)) := Lib.hid (by rw [zeroed_zero]; exact HQ0.out)
                clear HQ0
                go_wp2
                go_loopw [89] (fun i wr => ∃ j : Nat, j ≤ n ∧ i = .int .i64 (j : Int) ∧ Hid (OS w wr G g v1 v2 gs ds mv mt kh (zeroed n ds N j)) ∧ Hid (At wr X 28 #[.int .i64 4, .int .i64 N])) (fun i _ => n - (intOf i).toNat)
                case atStart => exact ⟨0, by omega, rfl, HQZ, HZ0⟩
                case round =>
                  clear HQZ HZ0 a0 a1
                  obtain ⟨j, hj, rfl, HQ, HZ⟩ := hrel
                  by_cases hjn : j < n
                  · have p0 : decide ((j : Int) < (n : Int)) = true := by simpa using hjn
                    have hI := fun W (h : LibAt W G g v1 v2 gs ds mv mt) => in_any h (j : Int) (by omega)
                    have HI := Lib.hid hI
                    have a1 : wr.cell? ⟨X, 1, none⟩ = some (.int .i64 N) := HZ.out.cell 1
                    have a1d : wr.drew.cell? ⟨X, 1, none⟩ = some (.int .i64 N) := HZ.out.cell 1
                    have hzh := zeroed_hit (ds := ds) (N := N) hjn
                    have hzm := zeroed_miss (n := n) (ds := ds) (N := N) (j := j)
                    have HZH := Lib.hid hzh
                    have HZM := Lib.hid hzm
                    have hzl := zeroed_len n ds N j
                    obtain ⟨zx, hzx⟩ : ∃ x, (zeroed n ds N j)[j]? = some x := ⟨_, List.getElem?_eq_getElem (by omega)⟩
                    have HZX := Lib.hid hzx
                    clear hI hzh hzm hzl hzx
                    go_upto_region 24 with fail
                    go_region_with (first | (go_at_call 10; refine (HI.out _ ?_).mono ?_; exact HQ.out.lib.below (Below.drew (Below.refl _ _)); rintro e w5 ⟨rfl, hb5⟩; have hb5' : Below wr.heap.size wr w5 := ⟨hb5.os, hb5.tape, hb5.output, hb5.size, hb5.block⟩; have a5 : w5.cell? ⟨X, 1, none⟩ = some (.int .i64 N) := (HZ.out.below hb5' HZ.out.lt).cell 1))
                    all_goals
                      have hq5 := HQ.out.grow hb5'
                      have hz5 := HZ.out.below hb5' HZ.out.lt
                      have y1 : w5.cell? ⟨kh, j, none⟩ = some (.int .i64 zx) := hq5.held.cell HZX.out
                      have y2 : w5.frozen? ⟨kh, j, none⟩ = false := hq5.held.frozen _
                      have hp := hq5.put j 0
                      have hkx : X ≠ kh := by
                        obtain ⟨M9, hM9, hb9⟩ := hq5.held
                        exact At.differ hz5 hb9 (by decide)
                      have hzp : At (w5.setCell ⟨kh, j, none⟩ (.int .i64 0)) X 28 #[.int .i64 4, .int .i64 N] := hz5.far hkx _
                      have HQ5 := Lib.hid hq5
                      have HZ5 := Lib.hid hz5
                      have HP := Lib.hid hp
                      have HZP := Lib.hid hzp
                      clear hb5 hb5' hq5 hz5 hp hzp HQ HZ HI a1 a1d
                      by_cases e : inF ds (j : Int) = N
                      · have qe : (inF ds (j : Int) == N) = true := by simpa using e
                        have HE := Lib.hid (HZH.out e)
                        clear e
                        go_wp2
                        go_roundw
                        case rel => exact ⟨j + 1, by omega, by go_num, by rw [← HE.out]; exact HP, HZP⟩
                        case measure => simp [intOf] <;> omega
                      · have qe : (inF ds (j : Int) == N) = false := by simpa using e
                        have HE := Lib.hid (HZM.out e)
                        clear e
                        go_wp2
                        go_roundw
                        case rel => exact ⟨j + 1, by omega, by go_num, by rw [← HE.out]; exact HQ5, HZ5⟩
                        case measure => simp [intOf] <;> omega
                  · have p0 : decide ((j : Int) < (n : Int)) = false := by simpa using hjn
                    obtain rfl : j = n := by omega
                    have hM := break_any HQ.out.lib (by omega) N true
                    have hze := zeroed_end HOD0.out (by omega) N
                    have hod := (break_od HOD0.out (by omega) N).1
                    have hdl0 := breakF_len ds N true
                    obtain ⟨dt, hdt⟩ : ∃ d, breakF ds N true = d := ⟨_, rfl⟩
                    rw [hdt] at hM hze hod hdl0
                    have HOD : Hid (OD j ((k : Int) + 1) dt) := Lib.hid (hod.more (by omega))
                    have HZE := Lib.hid hze
                    have HM' := Lib.hid hM
                    have hdl : dt.length ≤ 3 := by omega
                    have hbt0 : 0 ≤ mv ∧ mv ≤ (k : Int) + 1 ∧ 0 ≤ mt ∧ mt ≤ (k : Int) + 1 := by omega
                    obtain ⟨mvt, hmvt⟩ : ∃ d, mv = d := ⟨_, rfl⟩
                    obtain ⟨mtt, hmtt⟩ : ∃ d, mt = d := ⟨_, rfl⟩
                    have hbt : 0 ≤ mvt ∧ mvt ≤ (k : Int) + 1 ∧ 0 ≤ mtt ∧ mtt ≤ (k : Int) + 1 := by rw [← hmvt, ← hmtt]; exact hbt0
                    have HEQ := Lib.hid (And.intro hmvt hmtt)
                    have a1 : wr.cell? ⟨X, 1, none⟩ = some (.int .i64 N) := HZ.out.cell 1
                    clear hM hze hod hdt hmvt hmtt
                    go_wp2_with fail
                    refine HM'.out.mono ?_
                    rintro e wt ⟨rfl, h5, s5⟩
                    have HO : Hid (OS w wt G g v1 v2 gs dt mvt mtt kh (heldL j dt)) := Lib.hid (by rw [← HZE.out, ← HEQ.out.1, ← HEQ.out.2]; exact HQ.out.shift h5 s5)
                    clear h5 s5 HM' HZE HQ HZ HOD0 a1
                    have hmm := @run_makeMap Try.prog
                    go_upto_region 33 with fail
                    clear hmm
                    obtain ⟨mb, hmb⟩ : ∃ mb, wt.heap.size = mb := ⟨_, rfl⟩
                    have hsn : Seen (wt.alloc (.map #[] 0)) mb 0 (.map []) := ⟨by rw [← hmb]; exact World.ownsMap_made wt _ _ _, tidy_empty⟩
                    have hGm : G ≤ mb := by rw [← hmb]; exact HO.out.size
                    have hos := HO.out.grow ((Below.refl _ wt).alloc (Nat.le_refl _) (.map #[] 0))
                    have HSN := Lib.hid hsn
                    have HOS := Lib.hid hos
                    clear hsn hos HO
                    try rw [hmb]
                    generalize wt.alloc (.map #[] 0) = wm at *
                    clear hmb
                    go_upto_region 34 with fail
                    go_loopw [13, 115] (fun c i wr => ∃ (jj : Nat) (D : DataW Unit), jj ≤ j ∧ i = .int .i64 (jj : Int) ∧ c = .int .i64 (inN dt jj : Nat) ∧ Hid (Seen wr mb jj D) ∧ Hid (∀ u, hasV D u = seenD dt jj u) ∧ Hid (OS w wr G g v1 v2 gs dt mvt mtt kh (heldL j dt))) (fun _ i _ => j - (intOf i).toNat)
                    case atStart => exact ⟨0, .map [], by omega, rfl, by simp [inN], HSN, Lib.hid fun u => by simp [seenD]; rfl, HOS⟩
                    case round =>
                      clear HSN HOS
                      obtain ⟨jj, D, hj, rfl, rfl, HS, HH, HQ⟩ := hrel
                      have hnl := inN_le HOD.out jj
                      have hwl := workF_le dt
                      by_cases hjn : jj < j
                      · have p0 : decide ((jj : Int) < (j : Int)) = true := by simpa using hjn
                        have hI := in_any HQ.out.lib (jj : Int) (by omega)
                        have hle := inF_le dt (jj : Int)
                        have hnx : inN dt (jj + 1) = inN dt jj + if inF dt (jj : Int) = -1 then 0 else 1 := rfl
                        have hso := fun (h : inF dt (jj : Int) = -1) => heldS_out (ds := dt) (by omega : (jj : Int) ≠ -1) h
                        have hsp := heldS_pos (v := (jj : Int)) fun d hd => (HOD.out.hold d hd).1
                        have hgt := heldL_get dt hjn
                        have hno := fun (i : Nat) (h : inF dt (jj : Int) = (i : Int)) => seenD_not HOD.out h
                        have hput := seen_put HS.out.tidy HH.out
                        have HNO := Lib.hid hno
                        have HPT := Lib.hid hput
                        have HGT := Lib.hid hgt
                        have HI := Lib.hid hI
                        have HIF := Lib.hid hnx
                        have hkey : keyOf Try.prog 3 (.int .i64 (inF dt (jj : Int))) = some (.int .i64 (inF dt (jj : Int))) := keyOf_int_mk Try.underlying3 (by simp [Lit.wf]; have e1 : IntKind.i64.min = -9223372036854775808 := rfl; have e2 : IntKind.i64.max = 9223372036854775807 := rfl; omega)
                        have HKEY := Lib.hid hkey
                        obtain ⟨hv, hhv⟩ : ∃ x, heldS dt (jj : Int) = x := ⟨_, rfl⟩
                        rw [hhv] at HGT hsp hso
                        obtain ⟨fk, hfk⟩ : ∃ x, inF dt (jj : Int) = x := ⟨_, rfl⟩
                        rw [hfk] at HNO HPT HI HIF HKEY hle hso
                        obtain ⟨cj, hcj⟩ : ∃ x, inN dt jj = x := ⟨_, rfl⟩
                        rw [hcj] at HIF hnl
                        simp only [hcj]
                        have HCJ := Lib.hid hcj
                        clear hI hno hput hgt hnx hkey hhv hfk hcj
                        go_upto_region 36 with fail
                        go_wp2_with fail
                        refine HI.out.mono ?_
                        rintro e w7 ⟨rfl, hb7⟩
                        have hq7 := HQ.out.grow hb7
                        have hs7 := HS.out.of_block (hb7.block mb (by obtain ⟨⟨es, clock, hb, r⟩, ht⟩ := HS.out; exact (Array.getElem?_eq_some_iff.1 hb).1))
                        have y1 : w7.cell? ⟨kh, jj, none⟩ = some (.int .i64 hv) := hq7.held.cell HGT.out
                        have HQ7 := Lib.hid hq7
                        have HS7 := Lib.hid hs7
                        clear hb7 hq7 hs7 HI HQ HS
                        by_cases hk : fk = -1
                        · have hv0 := hso hk
                          subst hk
                          subst hv0
                          rw [if_pos rfl] at HIF
                          go_upto_region 41 with fail
                          go_wp2_with (at_mapUpdate; refine wpList_mapUpdate_own _ rfl _ _ _ 36 rfl 3 4 int_law Try.underlying36 (plainElem (H := Unit) Try.prog 4) mb jj D rfl HS7.out.own (by unfold maxLen; omega) _ _ _ rfl rfl HKEY.out _ [] (plainElem_bool Try.underlying4 true) ?_; intro w8 hown8 hgrow8; replace hown8 := Lib.hid hown8; replace hgrow8 := Lib.hid hgrow8)
                          have HS8 := Lib.hid (HS7.out.put _ hown8.out)
                          have HQ8 := Lib.hid (HQ7.out.map HS7.out hGm hgrow8.out)
                          clear hown8 hgrow8 HS7 HQ7
                          go_wp2
                          go_roundw
                          case rel => exact ⟨jj + 1, _, by omega, by go_num, by rw [HIF.out]; rfl, HS8, Lib.hid HPT.out, HQ8⟩
                          case measure => simp [intOf] <;> omega
                        · obtain ⟨fn, rfl⟩ : ∃ fn : Nat, fk = (fn : Int) := ⟨fk.toNat, by omega⟩
                          rw [if_neg (by omega)] at HIF
                          have hlk := HS7.out.look HKEY.out (by rw [HH.out]; exact HNO.out fn (by first | rfl | simp))
                          have p1 : decide ((0 : Int) ≤ (fn : Int)) = true := by simp
                          have p2 : decide (hv < 0) = false := by simpa using hsp
                          have p3 : decide ((fn : Int) < 0) = false := by simp
                          have hcw : IntKind.i64.wrap ((cj : Int) + 1) = (cj : Int) + 1 := IntWalk.i64_in _ ⟨by omega, by omega⟩
                          by_cases hpos : 0 < hv
                          · have p4 : decide (0 < hv) = true := by simpa using hpos
                            go_upto_region 41 with fail
                            go_wp2_with (at_mapUpdate; refine wpList_mapUpdate_own _ rfl _ _ _ 36 rfl 3 4 int_law Try.underlying36 (plainElem (H := Unit) Try.prog 4) mb jj D rfl HS7.out.own (by unfold maxLen; omega) _ _ _ rfl rfl HKEY.out _ [] (plainElem_bool Try.underlying4 true) ?_; intro w8 hown8 hgrow8; replace hown8 := Lib.hid hown8; replace hgrow8 := Lib.hid hgrow8)
                            have HS8 := Lib.hid (HS7.out.put _ hown8.out)
                            have HQ8 := Lib.hid (HQ7.out.map HS7.out hGm hgrow8.out)
                            clear hown8 hgrow8 HS7 HQ7 hlk
                            go_wp2
                            go_roundw
                            case rel => exact ⟨jj + 1, _, by omega, by go_num, by rw [HIF.out]; rfl, HS8, Lib.hid HPT.out, HQ8⟩
                            case measure => simp [intOf] <;> omega
                          · have p4 : decide (0 < hv) = false := by simpa using hpos
                            go_upto_region 41 with fail
                            go_wp2_with (at_mapUpdate; refine wpList_mapUpdate_own _ rfl _ _ _ 36 rfl 3 4 int_law Try.underlying36 (plainElem (H := Unit) Try.prog 4) mb jj D rfl HS7.out.own (by unfold maxLen; omega) _ _ _ rfl rfl HKEY.out _ [] (plainElem_bool Try.underlying4 true) ?_; intro w8 hown8 hgrow8; replace hown8 := Lib.hid hown8; replace hgrow8 := Lib.hid hgrow8)
                            have HS8 := Lib.hid (HS7.out.put _ hown8.out)
                            have HQ8 := Lib.hid (HQ7.out.map HS7.out hGm hgrow8.out)
                            clear hown8 hgrow8 HS7 HQ7 hlk
                            go_wp2
                            go_roundw
                            case rel => exact ⟨jj + 1, _, by omega, by go_num, by rw [HIF.out]; rfl, HS8, Lib.hid HPT.out, HQ8⟩
                            case measure => simp [intOf] <;> omega
                      · have p0 : decide ((jj : Int) < (j : Int)) = false := by simpa using hjn
                        obtain rfl : jj = j := by omega
                        have hWo := working_any HQ.out.lib (by omega)
                        obtain ⟨cj, hcj⟩ : ∃ x, inN dt jj = x := ⟨_, rfl⟩
                        rw [hcj] at hnl
                        simp only [hcj]
                        obtain ⟨wf, hwf⟩ : ∃ x, workF dt = x := ⟨_, rfl⟩
                        rw [hwf] at hWo hnl hwl
                        have p1 : decide ((wf : Int) < (cj : Int)) = false := by simp; omega
                        have p1n : decide (wf < cj) = false := by simp; omega
                        have HWO := Lib.hid hWo
                        clear hWo hcj hwf HS HH
                        go_wp2_with fail
                        refine HWO.out.mono ?_
                        rintro e w9 ⟨rfl, hb9⟩
                        have HQ9 := Lib.hid (HQ.out.grow hb9)
                        clear hb9 HWO HQ
                        go_wp2
                        go_roundw
                        case rel => exact ⟨k + 1, dt, mvt, mtt, kh, by omega, by omega, by go_num, rfl, hbt, by omega, by exact_mod_cast HOD, HQ9⟩
                        case measure => simp [intOf] <;> omega
              · have t4 : (K == 4) = false := by simpa using hK4
                by_cases hK7 : K = 7
                · subst hK7
                  obtain ⟨sz, hvz, hlz⟩ := HQ0.out.vols
                  have hM := libcrash_any HQ0.out.lib HQ0.out.size hvz hlz (by omega) (by omega)
                  have hod := crash_od HOD0.out (by omega)
                  have hdl0 := crashD_len ds
                  unfold CrashLib at hM
                  obtain ⟨dt, hdt⟩ : ∃ d, crashD ds = d := ⟨_, rfl⟩
                  rw [hdt] at hod hM hdl0
                  have HOD : Hid (OD n ((k : Int) + 1) dt) := Lib.hid (hod.1.more (by omega))
                  have hhl : heldL n dt = zeroL n := by rw [← heldL_new n 0]; exact heldL_eq fun u hu => by rw [hod.2 u hu]; rfl
                  have HHL := Lib.hid hhl
                  have HM' := Lib.hid hM
                  have HLOW := Lib.hid HQ0.out.low
                  have hbt0 : 0 ≤ mv ∧ mv ≤ (k : Int) + 1 ∧ 0 ≤ mt ∧ mt ≤ (k : Int) + 1 := by omega
                  have hdl : dt.length ≤ 3 := by omega
                  obtain ⟨mvt, hmvt⟩ : ∃ d, mv = d := ⟨_, rfl⟩
                  obtain ⟨mtt, hmtt⟩ : ∃ d, mt = d := ⟨_, rfl⟩
                  have hbt : 0 ≤ mvt ∧ mvt ≤ (k : Int) + 1 ∧ 0 ≤ mtt ∧ mtt ≤ (k : Int) + 1 := by rw [← hmvt, ← hmtt]; exact hbt0
                  rw [hmvt, hmtt] at HM'
                  clear hM hod hhl hvz hlz HQ0 HOD0 HZ0 hmvt hmtt hdt hbt0
                  go_wp2_with fail
                  refine HM'.out.mono ?_
                  rintro e w5 ⟨rfl, h5, hv5, hb5⟩
                  have hs5 : G ≤ w5.heap.size := Nat.le_trans h5.gB (Nat.le_of_lt h5.at_.lt)
                  have hal := (Below.refl w5.heap.size w5).alloc (Nat.le_refl _) (.cells M 3)
                  have hos : OS w (w5.alloc (.cells M 3)) G g v1 v2 gs dt mvt mtt w5.heap.size (heldL n dt) :=
                    ⟨h5.below hal, hv5.elim fun sz h => ⟨sz, h.1.below hal, h.2⟩, by rw [HHL.out]; exact ⟨M, HM.out, At.new _ _ _⟩, (HLOW.out.trans hb5).alloc hs5 _, hs5⟩
                  have HO := Lib.hid hos
                  have hmk := HMK.out
                  clear hos h5 hv5 hb5 hal HM' HHL HLOW
                  go_upto_region 31 with fail
                  clear hmk
                  generalize w5.alloc (.cells M 3) = wt at *
                  generalize w5.heap.size = kh at *
                  have hmm := @run_makeMap Try.prog
                  go_upto_region 33 with fail
                  clear hmm
                  obtain ⟨mb, hmb⟩ : ∃ mb, wt.heap.size = mb := ⟨_, rfl⟩
                  have hsn : Seen (wt.alloc (.map #[] 0)) mb 0 (.map []) := ⟨by rw [← hmb]; exact World.ownsMap_made wt _ _ _, tidy_empty⟩
                  have hGm : G ≤ mb := by rw [← hmb]; exact HO.out.size
                  have hos := HO.out.grow ((Below.refl _ wt).alloc (Nat.le_refl _) (.map #[] 0))
                  have HSN := Lib.hid hsn
                  have HOS := Lib.hid hos
                  clear hsn hos HO
                  try rw [hmb]
                  generalize wt.alloc (.map #[] 0) = wm at *
                  clear hmb
                  go_upto_region 34 with fail
                  go_loopw [13, 115] (fun c i wr => ∃ (j : Nat) (D : DataW Unit), j ≤ n ∧ i = .int .i64 (j : Int) ∧ c = .int .i64 (inN dt j : Nat) ∧ Hid (Seen wr mb j D) ∧ Hid (∀ u, hasV D u = seenD dt j u) ∧ Hid (OS w wr G g v1 v2 gs dt mvt mtt kh (heldL n dt))) (fun _ i _ => n - (intOf i).toNat)
                  case atStart => exact ⟨0, .map [], by omega, rfl, by simp [inN], HSN, Lib.hid fun u => by simp [seenD]; rfl, HOS⟩
                  case round =>
                    clear HSN HOS
                    obtain ⟨j, D, hj, rfl, rfl, HS, HH, HQ⟩ := hrel
                    have hnl := inN_le HOD.out j
                    have hwl := workF_le dt
                    by_cases hjn : j < n
                    · have p0 : decide ((j : Int) < (n : Int)) = true := by simpa using hjn
                      have hI := in_any HQ.out.lib (j : Int) (by omega)
                      have hle := inF_le dt (j : Int)
                      have hnx : inN dt (j + 1) = inN dt j + if inF dt (j : Int) = -1 then 0 else 1 := rfl
                      have hso := fun (h : inF dt (j : Int) = -1) => heldS_out (ds := dt) (by omega : (j : Int) ≠ -1) h
                      have hsp := heldS_pos (v := (j : Int)) fun d hd => (HOD.out.hold d hd).1
                      have hgt := heldL_get dt hjn
                      have hno := fun (i : Nat) (h : inF dt (j : Int) = (i : Int)) => seenD_not HOD.out h
                      have hput := seen_put HS.out.tidy HH.out
                      have HNO := Lib.hid hno
                      have HPT := Lib.hid hput
                      have HGT := Lib.hid hgt
                      have HI := Lib.hid hI
                      have HIF := Lib.hid hnx
                      have hkey : keyOf Try.prog 3 (.int .i64 (inF dt (j : Int))) = some (.int .i64 (inF dt (j : Int))) := keyOf_int_mk Try.underlying3 (by simp [Lit.wf]; have e1 : IntKind.i64.min = -9223372036854775808 := rfl; have e2 : IntKind.i64.max = 9223372036854775807 := rfl; omega)
                      have HKEY := Lib.hid hkey
                      obtain ⟨hv, hhv⟩ : ∃ x, heldS dt (j : Int) = x := ⟨_, rfl⟩
                      rw [hhv] at HGT hsp hso
                      obtain ⟨fk, hfk⟩ : ∃ x, inF dt (j : Int) = x := ⟨_, rfl⟩
                      rw [hfk] at HNO HPT HI HIF HKEY hle hso
                      obtain ⟨cj, hcj⟩ : ∃ x, inN dt j = x := ⟨_, rfl⟩
                      rw [hcj] at HIF hnl
                      simp only [hcj]
                      have HCJ := Lib.hid hcj
                      clear hI hno hput hgt hnx hkey hhv hfk hcj
                      go_upto_region 36 with fail
                      go_wp2_with fail
                      refine HI.out.mono ?_
                      rintro e w7 ⟨rfl, hb7⟩
                      have hq7 := HQ.out.grow hb7
                      have hs7 := HS.out.of_block (hb7.block mb (by obtain ⟨⟨es, clock, hb, r⟩, ht⟩ := HS.out; exact (Array.getElem?_eq_some_iff.1 hb).1))
                      have y1 : w7.cell? ⟨kh, j, none⟩ = some (.int .i64 hv) := hq7.held.cell HGT.out
                      have HQ7 := Lib.hid hq7
                      have HS7 := Lib.hid hs7
                      clear hb7 hq7 hs7 HI HQ HS
                      by_cases hk : fk = -1
                      · have hv0 := hso hk
                        subst hk
                        subst hv0
                        rw [if_pos rfl] at HIF
                        go_upto_region 41 with fail
                        go_wp2_with (at_mapUpdate; refine wpList_mapUpdate_own _ rfl _ _ _ 36 rfl 3 4 int_law Try.underlying36 (plainElem (H := Unit) Try.prog 4) mb j D rfl HS7.out.own (by unfold maxLen; omega) _ _ _ rfl rfl HKEY.out _ [] (plainElem_bool Try.underlying4 true) ?_; intro w8 hown8 hgrow8; replace hown8 := Lib.hid hown8; replace hgrow8 := Lib.hid hgrow8)
                        have HS8 := Lib.hid (HS7.out.put _ hown8.out)
                        have HQ8 := Lib.hid (HQ7.out.map HS7.out hGm hgrow8.out)
                        clear hown8 hgrow8 HS7 HQ7
                        go_wp2
                        go_roundw
                        case rel => exact ⟨j + 1, _, by omega, by go_num, by rw [HIF.out]; rfl, HS8, Lib.hid HPT.out, HQ8⟩
                        case measure => simp [intOf] <;> omega
                      · obtain ⟨fn, rfl⟩ : ∃ fn : Nat, fk = (fn : Int) := ⟨fk.toNat, by omega⟩
                        rw [if_neg (by omega)] at HIF
                        have hlk := HS7.out.look HKEY.out (by rw [HH.out]; exact HNO.out fn (by first | rfl | simp))
                        have p1 : decide ((0 : Int) ≤ (fn : Int)) = true := by simp
                        have p2 : decide (hv < 0) = false := by simpa using hsp
                        have p3 : decide ((fn : Int) < 0) = false := by simp
                        have hcw : IntKind.i64.wrap ((cj : Int) + 1) = (cj : Int) + 1 := IntWalk.i64_in _ ⟨by omega, by omega⟩
                        by_cases hpos : 0 < hv
                        · have p4 : decide (0 < hv) = true := by simpa using hpos
                          go_upto_region 41 with fail
                          go_wp2_with (at_mapUpdate; refine wpList_mapUpdate_own _ rfl _ _ _ 36 rfl 3 4 int_law Try.underlying36 (plainElem (H := Unit) Try.prog 4) mb j D rfl HS7.out.own (by unfold maxLen; omega) _ _ _ rfl rfl HKEY.out _ [] (plainElem_bool Try.underlying4 true) ?_; intro w8 hown8 hgrow8; replace hown8 := Lib.hid hown8; replace hgrow8 := Lib.hid hgrow8)
                          have HS8 := Lib.hid (HS7.out.put _ hown8.out)
                          have HQ8 := Lib.hid (HQ7.out.map HS7.out hGm hgrow8.out)
                          clear hown8 hgrow8 HS7 HQ7 hlk
                          go_wp2
                          go_roundw
                          case rel => exact ⟨j + 1, _, by omega, by go_num, by rw [HIF.out]; rfl, HS8, Lib.hid HPT.out, HQ8⟩
                          case measure => simp [intOf] <;> omega
                        · have p4 : decide (0 < hv) = false := by simpa using hpos
                          go_upto_region 41 with fail
                          go_wp2_with (at_mapUpdate; refine wpList_mapUpdate_own _ rfl _ _ _ 36 rfl 3 4 int_law Try.underlying36 (plainElem (H := Unit) Try.prog 4) mb j D rfl HS7.out.own (by unfold maxLen; omega) _ _ _ rfl rfl HKEY.out _ [] (plainElem_bool Try.underlying4 true) ?_; intro w8 hown8 hgrow8; replace hown8 := Lib.hid hown8; replace hgrow8 := Lib.hid hgrow8)
                          have HS8 := Lib.hid (HS7.out.put _ hown8.out)
                          have HQ8 := Lib.hid (HQ7.out.map HS7.out hGm hgrow8.out)
                          clear hown8 hgrow8 HS7 HQ7 hlk
                          go_wp2
                          go_roundw
                          case rel => exact ⟨j + 1, _, by omega, by go_num, by rw [HIF.out]; rfl, HS8, Lib.hid HPT.out, HQ8⟩
                          case measure => simp [intOf] <;> omega
                    · have p0 : decide ((j : Int) < (n : Int)) = false := by simpa using hjn
                      obtain rfl : j = n := by omega
                      have hWo := working_any HQ.out.lib (by omega)
                      obtain ⟨cj, hcj⟩ : ∃ x, inN dt j = x := ⟨_, rfl⟩
                      rw [hcj] at hnl
                      simp only [hcj]
                      obtain ⟨wf, hwf⟩ : ∃ x, workF dt = x := ⟨_, rfl⟩
                      rw [hwf] at hWo hnl hwl
                      have p1 : decide ((wf : Int) < (cj : Int)) = false := by simp; omega
                      have p1n : decide (wf < cj) = false := by simp; omega
                      have HWO := Lib.hid hWo
                      clear hWo hcj hwf HS HH
                      go_wp2_with fail
                      refine HWO.out.mono ?_
                      rintro e w9 ⟨rfl, hb9⟩
                      have HQ9 := Lib.hid (HQ.out.grow hb9)
                      clear hb9 HWO HQ
                      go_wp2
                      go_roundw
                      case rel => exact ⟨k + 1, dt, mvt, mtt, kh, by omega, by omega, by go_num, rfl, hbt, by omega, by exact_mod_cast HOD, HQ9⟩
                      case measure => simp [intOf] <;> omega
                · have t7 : (K == 7) = false := by simpa using hK7
                  generalize w4 = wt at *
                  have HOD : Hid (OD n ((k : Int) + 1) ds) := Lib.hid (HOD0.out.more (by omega))
                  have hbt : 0 ≤ mv ∧ mv ≤ (k : Int) + 1 ∧ 0 ≤ mt ∧ mt ≤ (k : Int) + 1 := by omega
                  obtain ⟨dt, hdt⟩ : ∃ d, ds = d := ⟨_, rfl⟩
                  obtain ⟨mvt, hmvt⟩ : ∃ d, mv = d := ⟨_, rfl⟩
                  obtain ⟨mtt, hmtt⟩ : ∃ d, mt = d := ⟨_, rfl⟩
                  rw [hdt] at HOD
                  rw [hmvt, hmtt] at hbt
                  have hdl : dt.length ≤ 3 := by rw [← hdt]; omega
                  have HO : Hid (OS w wt G g v1 v2 gs dt mvt mtt kh (heldL n dt)) := Lib.hid (by rw [← hdt, ← hmvt, ← hmtt]; exact HQ0.out)
                  clear HQ0 HOD0 HZ0 hdt hmvt hmtt
                  have hmm := @run_makeMap Try.prog
                  go_upto_region 33 with fail
                  clear hmm
                  obtain ⟨mb, hmb⟩ : ∃ mb, wt.heap.size = mb := ⟨_, rfl⟩
                  have hsn : Seen (wt.alloc (.map #[] 0)) mb 0 (.map []) := ⟨by rw [← hmb]; exact World.ownsMap_made wt _ _ _, tidy_empty⟩
                  have hGm : G ≤ mb := by rw [← hmb]; exact HO.out.size
                  have hos := HO.out.grow ((Below.refl _ wt).alloc (Nat.le_refl _) (.map #[] 0))
                  have HSN := Lib.hid hsn
                  have HOS := Lib.hid hos
                  clear hsn hos HO
                  try rw [hmb]
                  generalize wt.alloc (.map #[] 0) = wm at *
                  clear hmb
                  go_upto_region 34 with fail
                  go_loopw [13, 115] (fun c i wr => ∃ (j : Nat) (D : DataW Unit), j ≤ n ∧ i = .int .i64 (j : Int) ∧ c = .int .i64 (inN dt j : Nat) ∧ Hid (Seen wr mb j D) ∧ Hid (∀ u, hasV D u = seenD dt j u) ∧ Hid (OS w wr G g v1 v2 gs dt mvt mtt kh (heldL n dt))) (fun _ i _ => n - (intOf i).toNat)
                  case atStart => exact ⟨0, .map [], by omega, rfl, by simp [inN], HSN, Lib.hid fun u => by simp [seenD]; rfl, HOS⟩
                  case round =>
                    clear HSN HOS
                    obtain ⟨j, D, hj, rfl, rfl, HS, HH, HQ⟩ := hrel
                    have hnl := inN_le HOD.out j
                    have hwl := workF_le dt
                    by_cases hjn : j < n
                    · have p0 : decide ((j : Int) < (n : Int)) = true := by simpa using hjn
                      have hI := in_any HQ.out.lib (j : Int) (by omega)
                      have hle := inF_le dt (j : Int)
                      have hnx : inN dt (j + 1) = inN dt j + if inF dt (j : Int) = -1 then 0 else 1 := rfl
                      have hso := fun (h : inF dt (j : Int) = -1) => heldS_out (ds := dt) (by omega : (j : Int) ≠ -1) h
                      have hsp := heldS_pos (v := (j : Int)) fun d hd => (HOD.out.hold d hd).1
                      have hgt := heldL_get dt hjn
                      have hno := fun (i : Nat) (h : inF dt (j : Int) = (i : Int)) => seenD_not HOD.out h
                      have hput := seen_put HS.out.tidy HH.out
                      have HNO := Lib.hid hno
                      have HPT := Lib.hid hput
                      have HGT := Lib.hid hgt
                      have HI := Lib.hid hI
                      have HIF := Lib.hid hnx
                      have hkey : keyOf Try.prog 3 (.int .i64 (inF dt (j : Int))) = some (.int .i64 (inF dt (j : Int))) := keyOf_int_mk Try.underlying3 (by simp [Lit.wf]; have e1 : IntKind.i64.min = -9223372036854775808 := rfl; have e2 : IntKind.i64.max = 9223372036854775807 := rfl; omega)
                      have HKEY := Lib.hid hkey
                      obtain ⟨hv, hhv⟩ : ∃ x, heldS dt (j : Int) = x := ⟨_, rfl⟩
                      rw [hhv] at HGT hsp hso
                      obtain ⟨fk, hfk⟩ : ∃ x, inF dt (j : Int) = x := ⟨_, rfl⟩
                      rw [hfk] at HNO HPT HI HIF HKEY hle hso
                      obtain ⟨cj, hcj⟩ : ∃ x, inN dt j = x := ⟨_, rfl⟩
                      rw [hcj] at HIF hnl
                      simp only [hcj]
                      have HCJ := Lib.hid hcj
                      clear hI hno hput hgt hnx hkey hhv hfk hcj
                      go_upto_region 36 with fail
                      go_wp2_with fail
                      refine HI.out.mono ?_
                      rintro e w7 ⟨rfl, hb7⟩
                      have hq7 := HQ.out.grow hb7
                      have hs7 := HS.out.of_block (hb7.block mb (by obtain ⟨⟨es, clock, hb, r⟩, ht⟩ := HS.out; exact (Array.getElem?_eq_some_iff.1 hb).1))
                      have y1 : w7.cell? ⟨kh, j, none⟩ = some (.int .i64 hv) := hq7.held.cell HGT.out
                      have HQ7 := Lib.hid hq7
                      have HS7 := Lib.hid hs7
                      clear hb7 hq7 hs7 HI HQ HS
                      by_cases hk : fk = -1
                      · have hv0 := hso hk
                        subst hk
                        subst hv0
                        rw [if_pos rfl] at HIF
                        go_upto_region 41 with fail
                        go_wp2_with (at_mapUpdate; refine wpList_mapUpdate_own _ rfl _ _ _ 36 rfl 3 4 int_law Try.underlying36 (plainElem (H := Unit) Try.prog 4) mb j D rfl HS7.out.own (by unfold maxLen; omega) _ _ _ rfl rfl HKEY.out _ [] (plainElem_bool Try.underlying4 true) ?_; intro w8 hown8 hgrow8; replace hown8 := Lib.hid hown8; replace hgrow8 := Lib.hid hgrow8)
                        have HS8 := Lib.hid (HS7.out.put _ hown8.out)
                        have HQ8 := Lib.hid (HQ7.out.map HS7.out hGm hgrow8.out)
                        clear hown8 hgrow8 HS7 HQ7
                        go_wp2
                        go_roundw
                        case rel => exact ⟨j + 1, _, by omega, by go_num, by rw [HIF.out]; rfl, HS8, Lib.hid HPT.out, HQ8⟩
                        case measure => simp [intOf] <;> omega
                      · obtain ⟨fn, rfl⟩ : ∃ fn : Nat, fk = (fn : Int) := ⟨fk.toNat, by omega⟩
                        rw [if_neg (by omega)] at HIF
                        have hlk := HS7.out.look HKEY.out (by rw [HH.out]; exact HNO.out fn (by first | rfl | simp))
                        have p1 : decide ((0 : Int) ≤ (fn : Int)) = true := by simp
                        have p2 : decide (hv < 0) = false := by simpa using hsp
                        have p3 : decide ((fn : Int) < 0) = false := by simp
                        have hcw : IntKind.i64.wrap ((cj : Int) + 1) = (cj : Int) + 1 := IntWalk.i64_in _ ⟨by omega, by omega⟩
                        by_cases hpos : 0 < hv
                        · have p4 : decide (0 < hv) = true := by simpa using hpos
                          go_upto_region 41 with fail
                          go_wp2_with (at_mapUpdate; refine wpList_mapUpdate_own _ rfl _ _ _ 36 rfl 3 4 int_law Try.underlying36 (plainElem (H := Unit) Try.prog 4) mb j D rfl HS7.out.own (by unfold maxLen; omega) _ _ _ rfl rfl HKEY.out _ [] (plainElem_bool Try.underlying4 true) ?_; intro w8 hown8 hgrow8; replace hown8 := Lib.hid hown8; replace hgrow8 := Lib.hid hgrow8)
                          have HS8 := Lib.hid (HS7.out.put _ hown8.out)
                          have HQ8 := Lib.hid (HQ7.out.map HS7.out hGm hgrow8.out)
                          clear hown8 hgrow8 HS7 HQ7 hlk
                          go_wp2
                          go_roundw
                          case rel => exact ⟨j + 1, _, by omega, by go_num, by rw [HIF.out]; rfl, HS8, Lib.hid HPT.out, HQ8⟩
                          case measure => simp [intOf] <;> omega
                        · have p4 : decide (0 < hv) = false := by simpa using hpos
                          go_upto_region 41 with fail
                          go_wp2_with (at_mapUpdate; refine wpList_mapUpdate_own _ rfl _ _ _ 36 rfl 3 4 int_law Try.underlying36 (plainElem (H := Unit) Try.prog 4) mb j D rfl HS7.out.own (by unfold maxLen; omega) _ _ _ rfl rfl HKEY.out _ [] (plainElem_bool Try.underlying4 true) ?_; intro w8 hown8 hgrow8; replace hown8 := Lib.hid hown8; replace hgrow8 := Lib.hid hgrow8)
                          have HS8 := Lib.hid (HS7.out.put _ hown8.out)
                          have HQ8 := Lib.hid (HQ7.out.map HS7.out hGm hgrow8.out)
                          clear hown8 hgrow8 HS7 HQ7 hlk
                          go_wp2
                          go_roundw
                          case rel => exact ⟨j + 1, _, by omega, by go_num, by rw [HIF.out]; rfl, HS8, Lib.hid HPT.out, HQ8⟩
                          case measure => simp [intOf] <;> omega
                    · have p0 : decide ((j : Int) < (n : Int)) = false := by simpa using hjn
                      obtain rfl : j = n := by omega
                      have hWo := working_any HQ.out.lib (by omega)
                      obtain ⟨cj, hcj⟩ : ∃ x, inN dt j = x := ⟨_, rfl⟩
                      rw [hcj] at hnl
                      simp only [hcj]
                      obtain ⟨wf, hwf⟩ : ∃ x, workF dt = x := ⟨_, rfl⟩
                      rw [hwf] at hWo hnl hwl
                      have p1 : decide ((wf : Int) < (cj : Int)) = false := by simp; omega
                      have p1n : decide (wf < cj) = false := by simp; omega
                      have HWO := Lib.hid hWo
                      clear hWo hcj hwf HS HH
                      go_wp2_with fail
                      refine HWO.out.mono ?_
                      rintro e w9 ⟨rfl, hb9⟩
                      have HQ9 := Lib.hid (HQ.out.grow hb9)
                      clear hb9 HWO HQ
                      go_wp2
                      go_roundw
                      case rel => exact ⟨k + 1, dt, mvt, mtt, kh, by omega, by omega, by go_num, rfl, hbt, by omega, by exact_mod_cast HOD, HQ9⟩
                      case measure => simp [intOf] <;> omega
      · have hex : (¬ k < l.length) ∨ (k < l.length ∧ ¬ k < 40) := by omega
        have fin := Lib.hid HQ.out.low
        clear HQ HOD0
        rcases hex with z1 | ⟨z1, z2⟩
        all_goals
          go_wp2
          go_ret
          exact ⟨rfl, by rw [hG]; exact fin.out⟩
end Go.Proofs.Ytejgogahkjnefaa
