/- (*Enc).Bytes: its walk. -/
import Derived.Test.YtniecodpdmjppaaDoorEs
import Derived.Lib.BufferWrite
namespace Go.Proofs.YtniecodpdmjppaaDoor
open Go.RowKit

theorem Chain.inv {w : World} {q : Option Addr} {bs : List UInt8} (h : Chain w q bs) : (q = none ∧ bs = []) ∨ ∃ g p pre l, q = some ⟨g, 0, none⟩ ∧ bs = pre ++ l ∧ l ≠ [] ∧ At w g 124 #[.pointer p, .string ⟨l.toArray⟩] ∧ Chain w p pre := by
  cases h with
  | nil => exact .inl ⟨rfl, rfl⟩
  | cons hg hl hc => exact .inr ⟨_, _, _, _, rfl, rfl, hl, hg, hc⟩

theorem At.row {w : World} {g R : Nat} {t : TypeId} {cs : Array Value} (h : At w g t cs) (hne : g ≠ R) (X : Array Value) : At (w.setRow R X) g t cs := (setRow_other w R g X hne).trans h

theorem splice_drop (cur : List Value) (l suf : List Value) (k n : Nat) (hn : cur.length = n) (hk : k + l.length ≤ n) (h : cur.drop (k + l.length) = suf) :
    (cur.take k ++ l ++ cur.drop (k + l.length)).drop k = l ++ suf ∧ (cur.take k ++ l ++ cur.drop (k + l.length)).length = n := by
  constructor
  · rw [List.append_assoc, List.drop_append_of_le_length (by simp; omega), List.drop_of_length_le (by simp; omega), List.nil_append, h]
  · simp; omega

set_option maxHeartbeats 400000 in
theorem bytes_any (g : Nat) (bs : List UInt8) (w : World) (he : EncIs w g bs) (hlen : bs.length ≤ 140737488355328) :
    Calls Tryd.prog 62 #[.pointer (some ⟨g, 0, none⟩)] w fun e w' => e = .returned (.string ⟨bs.toArray⟩) ∧ Below w.heap.size w w' := by
  obtain ⟨p0, ha, hch⟩ := he
  have hc0 : w.cell? ⟨g, 0, none⟩ = some (.pointer p0) := ha.cell 0
  have hc1 : w.cell? ⟨g, 1, none⟩ = some (.int .i64 (bs.length : Nat)) := ha.cell 1
  have hd0 : ∀ o, (w.alloc o).cell? ⟨g, 0, none⟩ = some (.pointer p0) := fun o => (ha.alloc o).cell 0
  have hd1 : ∀ o, (w.alloc o).cell? ⟨g, 1, none⟩ = some (.int .i64 (bs.length : Nat)) := fun o => (ha.alloc o).cell 1
  obtain ⟨i0, hie, hz0, hz1, hz2⟩ := info_parts info_u8
  have hinfo : (Tryd.prog.info? 5).map (·.size) = some 1 := by rw [hie]; simp [hz1]
  obtain ⟨M, hM⟩ : ∃ M, M = madeCells (Value.int .u8 0).cells (((bs.length : Nat) : Int).toNat * i0.size) := ⟨_, rfl⟩
  have hMs : M.size = bs.length := by rw [hM, size_madeCells, hz1]; simp
  have hmk : ∀ W : World, (Instr.makeSlice 82 (.int .i64 (bs.length : Int)) (.int .i64 (bs.length : Int))).run Tryd.prog W = .ok (.slice (some ⟨W.heap.size, 0, none⟩) bs.length bs.length) (W.alloc (.cells M 5)) := fun W => by
    have h := run_make (P := Tryd.prog) W 82 5 i0 (.int .u8 0) Tryd.underlying82 hie hz0 .i64 .i64 (bs.length : Int) (bs.length : Int) (by omega) (by omega) (by rw [hz2]; omega) (by omega)
    rw [← hM] at h
    simpa using h
  clear hM hz1 hz2 hz0 hie
  have HM := Lib.hid hMs; clear hMs
  have HI := Lib.hid hinfo; clear hinfo
  have HA := Lib.hid ha; clear ha
  have HC := Lib.hid hch; clear hch
  go_enter Tryd.func62, Tryd.ntmps62
  go_wp2
  go_loopw [4, 5] (fun en q wr => ∃ (pre suf : List UInt8) (p : Option Addr) (cur : Array Value), en = .int .i64 (pre.length : Nat) ∧ q = .pointer p ∧ Hid (bs = pre ++ suf) ∧ Hid (Chain wr p pre) ∧ Hid (At wr w.heap.size 5 cur) ∧ Hid (cur.toList.drop pre.length = Lib.byteCells suf) ∧ Hid (cur.size = bs.length) ∧ Below w.heap.size w wr)
    (fun en _ _ => (intOf en).toNat)
  case atStart =>
    refine ⟨bs, [], p0, M, rfl, rfl, Lib.hid (by simp), Lib.hid ?_, Lib.hid (At.new _ _ _), Lib.hid ?_, HM, (Below.refl _ _).alloc (Nat.le_refl _) _⟩
    · exact HC.out.same (World.grownBy_alloc _ _ _)
    · rw [List.drop_of_length_le (by rw [Array.length_toList, HM.out]; exact Nat.le_refl _)]; rfl
  case round =>
    obtain ⟨pre, suf, p, cur, rfl, rfl, HB, HCh, HR, HD, HS, hb1⟩ := hrel
    rcases HCh.out.inv with ⟨rfl, rfl⟩ | ⟨gp, p', pre', l, rfl, rfl, hl0, hp, hch'⟩
    · have hcells : ∀ j (hj : j < bs.length), wr.cell? ((⟨w.heap.size, 0, none⟩ : Addr).add j) = some (.int .u8 (bs[j].toNat : Int)) := fun j hj => by
        have e : (⟨w.heap.size, 0, none⟩ : Addr).add j = ⟨w.heap.size, j, none⟩ := by simp [Addr.add]; omega
        have e2 : cur.toList = Lib.byteCells bs := by have h := HD.out; have h' := HB.out; rw [List.nil_append] at h'; rw [h']; exact h
        rw [e, HR.out.cell, ← Array.getElem?_toList, e2]
        simp [Lib.byteCells, hj]
      have hcv : (convert 82 9 (.slice (some ⟨w.heap.size, 0, none⟩) bs.length bs.length)).run Tryd.prog wr = .ok (.string ⟨bs.toArray⟩) wr :=
        run_convert_bytes_back wr _ _ _ _ bs.length bs Tryd.underlying82 Tryd.underlying5 Tryd.underlying9 hcells
      have H1 := Lib.hid hcells; clear hcells
      go_wp2
      go_ret
      exact ⟨rfl, hb1⟩
    · have hl1 : 0 < l.length := List.length_pos_iff.2 hl0
      have hq0 : wr.cell? ⟨gp, 0, none⟩ = some (.pointer p') := hp.cell 0
      have hq1 : wr.cell? ⟨gp, 1, none⟩ = some (.string ⟨l.toArray⟩) := hp.cell 1
      have hbl : pre'.length + l.length ≤ bs.length := by rw [HB.out]; simp
      obtain ⟨X, hX⟩ : ∃ X, X = (cur.toList.take pre'.length ++ Lib.byteCells l ++ cur.toList.drop (pre'.length + l.length)).toArray := ⟨_, rfl⟩
      have hsz : (⟨l.toArray⟩ : ByteArray).size = l.length := by simp [ByteArray.size]
      have hcp : (Builtin.copy_ #[82, 9] 3 #[.slice (some ⟨w.heap.size, pre'.length, none⟩) (bs.length - pre'.length) (bs.length - pre'.length), .string ⟨l.toArray⟩]).run Tryd.prog wr.drew = .ok (goInt l.length) (wr.setRow w.heap.size X).drew := by
        have h := Lib.run_copy_row_string (P := Tryd.prog) wr.drew 82 9 3 5 w.heap.size pre'.length (bs.length - pre'.length) (bs.length - pre'.length) ⟨l.toArray⟩ cur 5 Tryd.underlying82 HI.out HR.out (by rw [hsz]; omega) (by rw [hsz]; have := HS.out; omega)
        rw [hsz] at h
        rw [h, hX]
        rfl
      have HX := Lib.hid hX; clear hX hsz
      have hgR : gp ≠ w.heap.size := hp.differ HR.out (by decide)
      have hq2 : (wr.setRow w.heap.size X).cell? ⟨gp, 0, none⟩ = some (.pointer p') := (hp.row hgR X).cell 0
      have HP := Lib.hid hp; clear hp
      have HCc := Lib.hid hch'; clear hch'
      have hne : pre'.length < bs.length := by omega
      go_wp2
      go_region
      go_wp2
      have hcl : cur.toList.length = bs.length := by rw [Array.length_toList]; exact HS.out
      have HD2 : cur.toList.drop (pre'.length + (Lib.byteCells l).length) = Lib.byteCells suf := by rw [Lib.byteCells_length]; have h := HD.out; rwa [List.length_append] at h
      have hsp := splice_drop cur.toList (Lib.byteCells l) (Lib.byteCells suf) pre'.length bs.length hcl (by rw [Lib.byteCells_length]; exact hbl) HD2
      rw [Lib.byteCells_length] at hsp
      go_roundw
      case rel =>
        refine ⟨pre', l ++ suf, p', X, rfl, rfl, Lib.hid (by rw [HB.out, List.append_assoc]), Lib.hid ?_, Lib.hid ?_, Lib.hid ?_, Lib.hid ?_, ?_⟩
        · exact HCc.out.step fun g' cs' hc => (hc.row (hc.differ HR.out (by decide)) X : At (wr.setRow w.heap.size X) g' 124 cs')
        · exact setRow_heap wr w.heap.size cur X 5 _ HR.out
        · rw [HX.out, byteCells_append]; exact hsp.1
        · rw [← Array.length_toList, HX.out]; exact hsp.2
        · exact hb1.trans (⟨rfl, rfl, rfl, by simp, fun k hk => setRow_other _ _ _ _ (by omega)⟩ : Below w.heap.size wr (wr.setRow w.heap.size X).drew)
      case measure => simp [intOf]; omega
end Go.Proofs.YtniecodpdmjppaaDoor
