/- (*reel.Volume).Crash: its walk. -/
import Derived.Test.YtejgogahkjnefaaVd
import Derived.Lib.SliceRun
namespace Go.Proofs.Ytejgogahkjnefaa
open Go.RowKit
set_option linter.unusedVariables false

section
variable {w : World} {B g : Nat} {s s' : VS} {v : Value}

/-- numbers that can be read, whatever a volume's calls turn -/
def Reads (w : World) (B : Nat) (A : Option Addr) (l : List Int) : Prop := ∀ w', Stay0 B w w' → Lies w' w'.heap.size A (ints l)
theorem Reads.stay {w w' : World} {B : Nat} {A : Option Addr} {l : List Int} (h : Reads w B A l) (hs : Stay0 B w w') : Reads w' B A l := fun w'' h' => h w'' (hs.trans h')
theorem Reads.here {w : World} {B : Nat} {A : Option Addr} {l : List Int} (h : Reads w B A l) : Lies w w.heap.size A (ints l) := h w (Stay0.refl _ _)
theorem Reads.of_low {w : World} {B : Nat} {A : Option Addr} {l : List Int} (h : Lies w B A (ints l)) (hB : B ≤ w.heap.size) : Reads w B A l := fun w' hs => (h.below hs.below).more (Nat.le_trans hB hs.size)
theorem Reads.of_at {w : World} {B k : Nat} {cs : Array Value} {l : List Int} (h : At w k 3 cs) (hc : cs.toList = ints l) : Reads w B (some ⟨k, 0, none⟩) l := fun w' hs =>
  Lies.of_at (hs.at_ h (by decide) (by decide)) hc (hs.at_ h (by decide) (by decide)).lt

theorem VS.kept_le (s : VS) (ok : s.ok) (l : List Int) : ((s.kept (pickR l) : Nat) : Int) = s.sure + pickR l 0 ((s.l.length : Int) - s.sure + 1) ∧ s.kept (pickR l) ≤ s.l.length := by
  have h1 := pick_range l 0 ((s.l.length : Int) - s.sure + 1)
  have h2 := ok.sure
  have h3 := h1.2 (by omega)
  unfold VS.kept
  omega
theorem VS.part_le (s : VS) (l : List Int) : ((s.part (pickR l) : Nat) : Int) = pickR l 1 (((s.l[s.kept (pickR l)]?.getD .no).t.size : Nat) : Int) ∧ s.part (pickR l) ≤ (s.l[s.kept (pickR l)]?.getD .no).t.size := by
  have h1 := pick_range l 1 (((s.l[s.kept (pickR l)]?.getD .no).t.size : Nat) : Int)
  unfold VS.part
  by_cases h0 : 1 ≤ (((s.l[s.kept (pickR l)]?.getD .no).t.size : Nat) : Int)
  · have := h1.2 h0
    omega
  · rw [pick_out (by omega)]
    simp
theorem VS.ok.crash {s : VS} (h : s.ok) (l : List Int) : (s.crash (pickR l)).ok := by
  have h1 := (s.kept_le h l).2
  have h2 := s.part_le l
  have h3 := h.sum
  have h4 := h.len
  have hw := wsum_take_drop s.l (s.kept (pickR l))
  by_cases hp : s.part (pickR l) = 0
  · have e : s.left (pickR l) = s.l.take (s.kept (pickR l)) := by unfold VS.left; rw [if_pos hp]
    refine ⟨?_, ?_, h.top, h.lpos, h.ltop, Nat.le_refl _, Nat.zero_le _, ?_, h.lab, h.er⟩
    · show ∀ b ∈ s.left (pickR l), b.ok
      rw [e]
      exact fun b hb => h.blk b (List.mem_of_mem_take hb)
    · show ((wsum (s.left (pickR l)) : Nat) : Int) ≤ s.rm
      rw [e]; omega
    · show (s.left (pickR l)).length ≤ 1000000
      rw [e, List.length_take]; omega
  · have e : s.left (pickR l) = s.l.take (s.kept (pickR l)) ++ [⟨(s.l[s.kept (pickR l)]?.getD .no).t.extract 0 (s.part (pickR l)), false, true⟩] := by unfold VS.left; rw [if_neg hp]
    have hk : s.kept (pickR l) < s.l.length := by
      rcases Nat.lt_or_ge (s.kept (pickR l)) s.l.length with h' | h'
      · exact h'
      · rw [List.getElem?_eq_none h'] at h2
        have hz : (Option.getD (none : Option Blk) Blk.no).t.size = 0 := rfl
        omega
    rw [List.getElem?_eq_getElem hk] at h2 e
    simp only [Option.getD_some] at h2 e
    have hd := wsum_drop_step hk
    have hb := h.blk _ (List.getElem_mem hk)
    generalize s.l[s.kept (pickR l)] = b at *
    have hsz : (b.t.extract 0 (s.part (pickR l))).size = s.part (pickR l) := by rw [ByteArray.size_extract]; omega
    have hb1 := hb.1
    refine ⟨?_, ?_, h.top, h.lpos, h.ltop, Nat.le_refl _, Nat.zero_le _, ?_, h.lab, h.er⟩
    · show ∀ b ∈ s.left (pickR l), b.ok
      rw [e]
      intro c hc
      rcases List.mem_append.1 hc with h' | h'
      · exact h.blk c (List.mem_of_mem_take h')
      · rw [List.mem_singleton.1 h']
        exact ⟨by show (b.t.extract 0 (s.part (pickR l))).size ≤ 1000000; omega, fun h => by cases h⟩
    · show ((wsum (s.left (pickR l)) : Nat) : Int) ≤ s.rm
      rw [e, wsum_append, wsum_one]
      unfold Blk.wt at hd ⊢
      simp only
      omega
    · show (s.left (pickR l)).length ≤ 1000000
      rw [e, List.length_append, List.length_take]; simp; omega

def CrashEnds (w : World) (B g : Nat) (s : VS) (e : Ending) (w' : World) : Prop := e = .returned (.tuple #[]) ∧ Vol w' B g s ∧ Stay B g w w'

theorem crash_done {t : VS} (h : VolAt w B g t v) (ok : VS.ok { t with sure := t.l.length, pos := 0 }) :
    Vol ((w.setCell ⟨g, 6, none⟩ (.int .i64 ((t.l.length : Nat) : Int))).setCell ⟨g, 7, none⟩ (.int .i64 0)) B g { t with sure := t.l.length, pos := 0 } ∧ Stay B g w ((w.setCell ⟨g, 6, none⟩ (.int .i64 ((t.l.length : Nat) : Int))).setCell ⟨g, 7, none⟩ (.int .i64 0)) := by
  have a1 := h.at_.set 6 (.int .i64 ((t.l.length : Nat) : Int))
  have a2 := a1.set 7 (.int .i64 0)
  have hg : w.grownBy ((w.setCell ⟨g, 6, none⟩ (.int .i64 ((t.l.length : Nat) : Int))).setCell ⟨g, 7, none⟩ (.int .i64 0)) (some g) := grownBy_set (grown_set _ _ _ _) _ _
  exact ⟨⟨ok, v, h.own (s' := { t with sure := t.l.length, pos := 0 }) rfl hg a2⟩, h.stay hg (rowOf_at a2 rfl)⟩

/-- what is at hand where a crash ends -/
theorem crash_facts {t : VS} (h : VolAt w B g t v) : ∃ A c, v = .slice A t.l.length c ∧ w.cell? ⟨g, 5, none⟩ = some (.slice A t.l.length c) ∧ (∃ u, w.cell? ⟨g, 6, none⟩ = some u) ∧ (∃ u, w.cell? ⟨g, 7, none⟩ = some u) ∧ w.frozen? ⟨g, 6, none⟩ = false ∧ w.frozen? ⟨g, 7, none⟩ = false := by
  obtain ⟨A, c, rfl, _⟩ := h.form
  exact ⟨A, c, rfl, h.at_.cell 5, ⟨_, h.at_.cell 6⟩, ⟨_, h.at_.cell 7⟩, h.at_.frozen 6, h.at_.frozen 7⟩

set_option maxRecDepth 100000 in
set_option maxHeartbeats 2000000 in
theorem crash_vol (h : Vol w B g s) (A : Option Addr) (c : Nat) (l : List Int) (n : Nat) (hn : l.length = n) (hR : Reads w B A l) (hl : ∀ x ∈ l, -9223372036854775808 ≤ x ∧ x ≤ 9223372036854775807) (hlen : l.length ≤ 9223372036854775807) :
    Calls Try.prog 21 #[.pointer (some ⟨g, 0, none⟩), .slice A n c] w (CrashEnds w B g (s.crash (pickR l))) := by
  subst hn
  obtain ⟨ok, v, h⟩ := h
  obtain ⟨hk1, hk2⟩ := s.kept_le ok l
  obtain ⟨hp1, hp2⟩ := s.part_le l
  have hss := ok.sure
  have hln := ok.len
  have OKC := Lib.hid (ok.crash l)
  have OK := Lib.hid ok
  have hP0 : ∀ m, Calls Try.prog 24 #[.slice A l.length c, .int .i64 0, .int .i64 ((s.l.length : Int) - s.sure + 1)] (w.drewN m) fun e w' => e = .returned (.int .i64 (pickR l 0 ((s.l.length : Int) - s.sure + 1))) ∧ w' = w.drewN m := fun m =>
    pick_any A c l 0 _ w.heap.size _ (show Lies w w.heap.size A (ints l) from hR.here) hl hlen (by omega)
  obtain ⟨p0, hp0⟩ : ∃ p0, pickR l 0 ((s.l.length : Int) - s.sure + 1) = p0 := ⟨_, rfl⟩
  rw [hp0] at hP0 hk1
  obtain ⟨kp, hkp⟩ : ∃ kp, s.kept (pickR l) = kp := ⟨_, rfl⟩
  have HR := Lib.hid hR
  have HL := Lib.hid hl
  have HP0 := Lib.hid hP0
  have H := Lib.hid h
  have c6 : w.cell? ⟨g, 6, none⟩ = some (.int .i64 s.sure) := h.at_.cell 6
  rw [hkp] at hk1 hk2
  have HKP := Lib.hid hkp
  have hbz := h.bz
  obtain ⟨As, cs, rfl, hc, hcm, hnil, hsome⟩ := h.form
  have c5 : w.cell? ⟨g, 5, none⟩ = some (.slice As s.l.length cs) := h.at_.cell 5
  clear hP0 hR hl hkp hp0 hnil hsome h ok
  have hw1 : IntKind.i64.wrap ((s.l.length : Int) - s.sure) = (s.l.length : Int) - s.sure := IntWalk.i64_in _ ⟨by omega, by omega⟩
  have hw2 : IntKind.i64.wrap ((s.l.length : Int) - s.sure + 1) = (s.l.length : Int) - s.sure + 1 := IntWalk.i64_in _ ⟨by omega, by omega⟩
  have hw3 : IntKind.i64.wrap ((s.sure : Int) + p0) = (kp : Int) := by rw [← hk1]; exact IntWalk.i64_in _ ⟨by omega, by omega⟩
  go_enter Try.func21, Try.ntmps21
  go_wp2
  go_quiet ((go_at_call 24; exact Calls.quiet_of_same (HP0.out _)))
  clear hw1 hw2 hw3
  rw [← hk1]
  have HK1 := Lib.hid hk1; clear hk1
  have c5 : (w.drewN nq).cell? ⟨g, 5, none⟩ = some (.slice As s.l.length cs) := c5
  have H1 := Lib.hid (H.out.drewN nq)
  have HS1 := Lib.hid (Stay.drewN (B := B) (g := g) w nq)
  have HR1 := Lib.hid (HR.out.stay (Stay.drewN (g := g) w nq).toStay0)
  clear H HR HP0 c6
  generalize w.drewN nq = w1 at *
  by_cases hkn : kp < s.l.length
  · obtain ⟨b, hbe⟩ : ∃ b, s.l[kp] = b := ⟨_, rfl⟩
    have hnx : (s.l[s.kept (pickR l)]?.getD .no) = b := by rw [HKP.out, List.getElem?_eq_getElem hkn]; exact hbe
    have hbok : b.ok := by rw [← hbe]; exact OK.out.blk _ (List.getElem_mem hkn)
    rw [hnx] at hp1 hp2
    obtain ⟨q, k, ev, hk, hq, hne, hBq, d0, d1, d2⟩ := H1.out.next hkn
    have HCUT := Lib.hid (fun W (hb : Below w1.heap.size w1 W) => cut_vol (H1.out.below hb) OK.out kp (Nat.le_of_lt hkn))
    rw [hbe] at d0 d1 d2
    simp only [Value.slice.injEq] at ev
    obtain ⟨rfl, _, rfl⟩ := ev
    have i0 : (0 : Int) ≤ (kp : Int) := by omega
    have i1 : (kp : Int) < (s.l.length : Int) := by omega
    have HNX := Lib.hid hnx
    clear hnx hbe
    generalize hzz : s.l.length = N at *
    have HZ := Lib.hid hzz; clear hzz
    have n5 : ∀ o, (w1.alloc o).cell? ⟨g, 5, none⟩ = _ := fun o => Lib.cell?_alloc_some o c5
    have n0 : ∀ o, (w1.alloc o).cell? ⟨q, kp * 3, none⟩ = _ := fun o => Lib.cell?_alloc_some o d0
    have n1 : ∀ o, (w1.alloc o).cell? ⟨q, kp * 3 + 1, none⟩ = _ := fun o => Lib.cell?_alloc_some o d1
    have n2 : ∀ o, (w1.alloc o).cell? ⟨q, kp * 3 + 2, none⟩ = _ := fun o => Lib.cell?_alloc_some o d2
    have hgz : g < w1.heap.size := H1.out.lt
    have hbA := At.new w1 62 #[.string b.t, .bool b.mark, .bool b.torn]
    have hBA : Below w1.heap.size w1 (w1.alloc (.cells #[.string b.t, .bool b.mark, .bool b.torn] 62)) := (Below.refl _ w1).alloc (Nat.le_refl _) _
    have hbw : b.wt = b.t.size + 4 := rfl
    go_wp2_with fail
    refine (HCUT.out _ hBA).mono ?_
    rintro e w3 ⟨rfl, ⟨v3, h3⟩, st3, nr3⟩
    have hb3 : At w3 w1.heap.size 62 #[.string b.t, .bool b.mark, .bool b.torn] := (nr3.block w1.heap.size (by simp) (by omega) (by simp [Value.ownBlock]; omega)).trans hbA
    have HST3 := Lib.hid ((HS1.out.trans (Stay.of_below hBA (Nat.le_trans hbz HS1.out.size))).trans st3)
    have hR3 := HR1.out.stay ((Stay.of_below hBA (Nat.le_trans hbz HS1.out.size)).trans st3).toStay0
    have H3 := Lib.hid h3
    have HB3 := Lib.hid hb3
    have x0 := hb3.cell 0
    simp at x0
    have hP1 := pick_any A c l 1 ((b.t.size : Nat) : Int) w3.heap.size w3 hR3.here HL.out hlen (by have := hbok.1; omega)
    rw [← hp1] at hP1
    clear h3 hb3 hR3 st3 nr3 hbA hBA HCUT n5 n0 n1 n2 c5 d0 d1 d2 H1 HR1 HS1
    obtain ⟨j, hj⟩ : ∃ j, s.part (pickR l) = j := ⟨_, rfl⟩
    rw [hj] at hP1 hp2
    have HJ := Lib.hid hj
    have hbz1 := hbok.1
    clear hj hp1
    generalize w1.heap.size = bx at *
    go_wp2_with fail
    refine hP1.mono ?_
    rintro e w4 ⟨rfl, rfl⟩
    clear hP1
    by_cases hj0 : j = 0
    · subst hj0
      have hl : s.left (pickR l) = s.l.take kp := by unfold VS.left; rw [if_pos HJ.out, HKP.out]
      have hcr : s.crash (pickR l) = { s.cut kp with sure := (s.cut kp).l.length, pos := 0 } := by unfold VS.crash; rw [hl]; rfl
      have hok := OKC.out
      rw [hcr] at hok
      have hD := crash_done H3.out hok
      rw [← hcr] at hD
      obtain ⟨A5, c5, _, q5, ⟨u6, q6⟩, ⟨u7, q7⟩, f6, f7⟩ := crash_facts H3.out
      generalize (s.cut kp).l.length = z at *
      have HD := Lib.hid hD
      clear hl hcr hok hD H3
      go_wp2
      go_end0
      exact ⟨rfl, HD.out.1, HST3.out.trans HD.out.2⟩
    · have hj1 : 1 ≤ j := by omega
      have hjz : (b.t.extract 0 j).size = j := by rw [ByteArray.size_extract]; omega
      have hCl := fun W => clone_any (b.t.extract 0 j) W (by omega)
      have hl : s.left (pickR l) = s.l.take kp ++ [⟨b.t.extract 0 j, false, true⟩] := by unfold VS.left; rw [if_neg (by rw [HJ.out]; exact hj0), HNX.out, HKP.out, HJ.out]
      have hcr : s.crash (pickR l) = { (s.cut kp).put ⟨b.t.extract 0 j, false, true⟩ with sure := ((s.cut kp).put ⟨b.t.extract 0 j, false, true⟩).l.length, pos := 0 } := by unfold VS.crash; rw [hl]; rfl
      have hok := OKC.out
      have hfit : ((Blk.wt ⟨b.t.extract 0 j, false, true⟩ : Nat) : Int) ≤ (s.cut kp).rm - wsum (s.cut kp).l := by
        have := hok.sum
        have e : (s.crash (pickR l)).l = s.l.take kp ++ [⟨b.t.extract 0 j, false, true⟩] := hl
        rw [e, wsum_append, wsum_one] at this
        have this : ((wsum (s.l.take kp) + Blk.wt ⟨b.t.extract 0 j, false, true⟩ : Nat) : Int) ≤ s.rm := this
        show ((Blk.wt ⟨b.t.extract 0 j, false, true⟩ : Nat) : Int) ≤ s.rm - wsum (s.l.take kp)
        omega
      rw [hcr] at hok
      have hokc : (s.cut kp).ok := OK.out.cut (by rw [HZ.out]; omega)
      have HP : Hid (∀ W, Below w4.heap.size w4 W → Calls Try.prog 26 #[.pointer (some ⟨g, 0, none⟩), .agg #[.string (b.t.extract 0 j), .bool false, .bool true]] W fun e w' => e = .returned (.int .i64 0) ∧ (∃ v', VolAt w' B g ((s.cut kp).put ⟨b.t.extract 0 j, false, true⟩) v') ∧ Stay B g W w') := Lib.hid fun W hb =>
        put_fits (H3.out.below hb) hokc ⟨b.t.extract 0 j, false, true⟩ (by show (b.t.extract 0 j).size ≤ 1000000; omega) hfit hokc.len
      have HB : B ≤ w4.heap.size := H3.out.bz
      have HOK := Lib.hid hok
      have HCR := Lib.hid hcr
      have hjt : j ≤ b.t.size := by omega
      clear hl hcr hok hfit hokc hj0
      go_wp2_with fail
      refine (hCl _).mono ?_
      rintro e w5 ⟨rfl, hb5⟩
      go_wp2_with fail
      refine (HP.out _ hb5).mono ?_
      rintro e w6 ⟨rfl, ⟨v6, h6⟩, st6⟩
      have HST6 := Lib.hid ((HST3.out.trans (Stay.of_below hb5 HB)).trans st6)
      have hD := crash_done h6 HOK.out
      rw [← HCR.out] at hD
      obtain ⟨A5, c5, _, q5, ⟨u6, q6⟩, ⟨u7, q7⟩, f6, f7⟩ := crash_facts h6
      generalize ((s.cut kp).put ⟨b.t.extract 0 j, false, true⟩).l.length = z at *
      have HD := Lib.hid hD
      clear hD h6 st6 hb5 HP H3 HB3 hCl x0 hjz HOK
      go_wp2
      go_end0
      exact ⟨rfl, HD.out.1, HST6.out.trans HD.out.2⟩
  · have hke : kp = s.l.length := by omega
    have hnx : s.l[s.kept (pickR l)]? = none := by rw [HKP.out]; exact List.getElem?_eq_none (by omega)
    have hp0 : s.part (pickR l) = 0 := by
      rw [hnx] at hp2
      have : (Option.getD (none : Option Blk) Blk.no).t.size = 0 := rfl
      omega
    have hl : s.left (pickR l) = s.l.take kp := by unfold VS.left; rw [if_pos hp0, HKP.out]
    have hcr : s.crash (pickR l) = { s.cut kp with sure := (s.cut kp).l.length, pos := 0 } := by unfold VS.crash; rw [hl]; rfl
    have HCUT := Lib.hid (fun W (hb : Below w1.heap.size w1 W) => cut_vol (H1.out.below hb) OK.out kp (by omega))
    have hPz : pickR l 1 0 = 0 := pick_out (.inr (.inr (by omega)))
    have hok := OKC.out
    rw [hcr] at hok
    have HOK := Lib.hid hok
    have HCR := Lib.hid hcr
    have HKE := Lib.hid hke
    clear hcr hok hl hp0 hnx hp1 hp2
    have n5 : ∀ o, (w1.alloc o).cell? ⟨g, 5, none⟩ = _ := fun o => Lib.cell?_alloc_some o c5
    have hgz : g < w1.heap.size := H1.out.lt
    have hoz : ∀ k, As = some k → k.block < w1.heap.size ∧ k.block ≠ g := fun k hk => by
      have h1 := H1.out.row_lt k.block (by rw [hk]; rfl)
      have h2 := H1.out.ne
      rw [hk] at h2
      rcases h2 with h2 | h2
      · cases h2
      · exact ⟨h1.2, by simpa [Value.ownBlock] using h2⟩
    have HOZ := Lib.hid hoz; clear hoz
    have hkn' : ¬ kp < s.l.length := hkn
    clear hke hkn
    generalize hzz : s.l.length = N at *
    have HZ := Lib.hid hzz; clear hzz
    have hbA := At.new w1 62 #[.string ⟨#[]⟩, .bool false, .bool false]
    have hBA : Below w1.heap.size w1 (w1.alloc (.cells #[.string ⟨#[]⟩, .bool false, .bool false] 62)) := (Below.refl _ w1).alloc (Nat.le_refl _) _
    go_wp2_with fail
    refine (HCUT.out _ hBA).mono ?_
    rintro e w3 ⟨rfl, ⟨v3, h3⟩, st3, nr3⟩
    have hb3 : At w3 w1.heap.size 62 #[.string ⟨#[]⟩, .bool false, .bool false] := (nr3.block w1.heap.size (by simp) (by omega) (by
      intro e
      cases As with
      | none => cases e
      | some a => have := (HOZ.out a rfl).1; simp [Value.ownBlock] at e; omega)).trans hbA
    have HST3 := Lib.hid ((HS1.out.trans (Stay.of_below hBA (Nat.le_trans hbz HS1.out.size))).trans st3)
    have hR3 := HR1.out.stay ((Stay.of_below hBA (Nat.le_trans hbz HS1.out.size)).trans st3).toStay0
    have H3 := Lib.hid h3
    have x0 := hb3.cell 0
    simp at x0
    have hP1 := pick_any A c l 1 0 w3.heap.size w3 hR3.here HL.out hlen (by omega)
    rw [hPz] at hP1
    clear h3 hb3 hR3 st3 nr3 hbA hBA HCUT n5 c5 H1 HR1 HS1 HOZ hPz
    generalize w1.heap.size = bx at *
    have hD := crash_done H3.out HOK.out
    rw [← HCR.out] at hD
    obtain ⟨A5, c5, _, q5, ⟨u6, q6⟩, ⟨u7, q7⟩, f6, f7⟩ := crash_facts H3.out
    generalize (s.cut kp).l.length = z at *
    have HD := Lib.hid hD
    clear hD H3 HOK
    go_wp2_with fail
    refine hP1.mono ?_
    rintro e w4 ⟨rfl, rfl⟩
    clear hP1
    go_wp2
    go_end0
    exact ⟨rfl, HD.out.1, HST3.out.trans HD.out.2⟩
end
end Go.Proofs.Ytejgogahkjnefaa
