/- What a Dec holds; From, Fail, next, Err, Done: their walks. -/
import Derived.Test.YtniecodpdmjppaaDoorCl
import Derived.Test.YtniecodpdmjppaaDoorWm
import Derived.Lib.Strings
import Derived.Handy
namespace Go.Proofs.YtniecodpdmjppaaDoor
open Go.RowKit

/-- block g is a Dec: l is what is left, e the error's number -/
def DecIs (w : World) (g : Nat) (l : List UInt8) (e : Nat) : Prop := At w g 135 #[.string ⟨l.toArray⟩, .int .i64 (e : Nat)]

/-- v is handed back; the Dec in block g is as told; nothing else that was there has turned -/
def DecRet (g : Nat) (l : List UInt8) (e : Nat) (v : Value) (w : World) (x : Ending) (w' : World) : Prop := x = .returned v ∧ DecIs w' g l e ∧ w.grownBy w' (some g)

theorem grownBy_refl (w : World) (row : Option Nat) : w.grownBy w row := ⟨rfl, rfl, rfl, Nat.le_refl _, fun _ _ _ => rfl⟩


set_option maxHeartbeats 400000 in
theorem from_any (s : ByteArray) (w : World) (hlim : s.size ≤ 140737488355328) :
    Calls Tryd.prog 76 #[.string s] w fun e w' => ∃ g, e = .returned (.pointer (some ⟨g, 0, none⟩)) ∧ w.heap.size ≤ g ∧ DecIs w' g s.data.toList 0 ∧ Below w.heap.size w w' := by
  go_enter Tryd.func76, Tryd.ntmps76
  go_wp2_with fail
  refine (clone_any s w hlim).mono ?_
  rintro e w1 ⟨rfl, hb⟩
  go_wp2
  go_ret
  refine ⟨w1.heap.size, rfl, hb.size, ?_, hb.alloc hb.size _⟩
  have h := At.new w1 135 #[.string s, .int .i64 0]
  unfold DecIs
  rw [list_string]
  exact h

set_option maxHeartbeats 400000 in
theorem dfail_any (g c : Nat) (l : List UInt8) (e : Nat) (w : World) (hd : DecIs w g l e) :
    Calls Tryd.prog 80 #[.pointer (some ⟨g, 0, none⟩), .int .i64 (c : Nat)] w (DecRet g l (if e = 0 then c else e) (.tuple #[]) w) := by
  have hc1 : w.cell? ⟨g, 1, none⟩ = some (.int .i64 (e : Nat)) := At.cell hd 1
  have hf1 : w.frozen? ⟨g, 1, none⟩ = false := At.frozen hd 1
  have HD := Lib.hid hd; clear hd
  by_cases h0 : e = 0
  · subst h0
    go_enter Tryd.func80, Tryd.ntmps80
    go_wp2
    go_returns
    exact ⟨rfl, HD.out.set 1 _, grownBy_set (grownBy_refl _ _) _ _⟩
  · rw [if_neg h0]
    have ht : ((e : Int) == 0) = false := by simp; omega
    have H0 := Lib.hid h0; clear h0
    go_enter Tryd.func80, Tryd.ntmps80
    go_wp2
    go_returns
    exact ⟨rfl, HD.out, grownBy_refl _ _⟩

set_option maxHeartbeats 400000 in
theorem next_bad (g : Nat) (l : List UInt8) (e : Nat) (h0 : e ≠ 0) (w : World) (hd : DecIs w g l e) :
    Calls Tryd.prog 86 #[.pointer (some ⟨g, 0, none⟩)] w (DecRet g l e (.int .u8 0) w) := by
  have ht : ((e : Int) != 0) = true := by rw [bne_iff_ne]; omega
  have hF := dfail_any g 2 l e w hd
  rw [if_neg h0] at hF
  have H0 := Lib.hid h0; clear h0
  have HD := Lib.hid hd
  have hc0 : w.cell? ⟨g, 0, none⟩ = some (.string ⟨l.toArray⟩) := At.cell hd 0
  have hc1 : w.cell? ⟨g, 1, none⟩ = some (.int .i64 (e : Nat)) := At.cell hd 1
  clear hd
  by_cases hl : l = []
  · subst hl
    go_enter Tryd.func86, Tryd.ntmps86
    go_wp2_with fail
    refine hF.mono ?_
    rintro x w1 ⟨rfl, hd1, hg⟩
    have hk1 : w1.cell? ⟨g, 1, none⟩ = some (.int .i64 (e : Nat)) := At.cell hd1 1
    have H1 := Lib.hid hd1; clear hd1 hF
    go_wp2
    go_ret
    exact ⟨rfl, H1.out, hg⟩
  · have he : (⟨l.toArray⟩ : ByteArray).toList.isEmpty = false := by rw [ByteArray.toList_eq]; simpa using hl
    clear hl hF
    generalize hs : (⟨l.toArray⟩ : ByteArray) = s at *
    have HS := Lib.hid hs; clear hs
    go_enter Tryd.func86, Tryd.ntmps86
    go_wp2
    go_ret
    exact ⟨rfl, HD.out, grownBy_refl _ _⟩

set_option maxHeartbeats 400000 in
theorem next_end (g : Nat) (w : World) (hd : DecIs w g [] 0) :
    Calls Tryd.prog 86 #[.pointer (some ⟨g, 0, none⟩)] w (DecRet g [] 2 (.int .u8 0) w) := by
  have hF := dfail_any g 2 [] 0 w hd
  rw [if_pos rfl] at hF
  have hc0 : w.cell? ⟨g, 0, none⟩ = some (.string ⟨([] : List UInt8).toArray⟩) := At.cell hd 0
  clear hd
  go_enter Tryd.func86, Tryd.ntmps86
  go_wp2_with fail
  refine hF.mono ?_
  rintro x w1 ⟨rfl, hd1, hg⟩
  have hk1 : w1.cell? ⟨g, 1, none⟩ = some (.int .i64 ((2 : Nat) : Nat)) := At.cell hd1 1
  have H1 := Lib.hid hd1; clear hd1 hF
  go_wp2
  go_ret
  exact ⟨rfl, H1.out, hg⟩

set_option maxHeartbeats 400000 in
theorem next_ok (g : Nat) (b : UInt8) (r : List UInt8) (w : World) (hd : DecIs w g (b :: r) 0) :
    Calls Tryd.prog 86 #[.pointer (some ⟨g, 0, none⟩)] w (DecRet g r 0 (.int .u8 (b.toNat : Nat)) w) := by
  have HD := Lib.hid hd
  have hc0 : w.cell? ⟨g, 0, none⟩ = some (.string ⟨(b :: r).toArray⟩) := At.cell hd 0
  have hc1 : w.cell? ⟨g, 1, none⟩ = some (.int .i64 ((0 : Nat) : Nat)) := At.cell hd 1
  have hf0 : w.frozen? ⟨g, 0, none⟩ = false := At.frozen hd 0
  have he : (⟨(b :: r).toArray⟩ : ByteArray).toList.isEmpty = false := by rw [ByteArray.toList_eq]; simp
  have hsz : 0 < (⟨(b :: r).toArray⟩ : ByteArray).size := by simp [ByteArray.size]
  have H0 : Hid (∀ h, (⟨(b :: r).toArray⟩ : ByteArray)[0]'h = b) := Lib.hid fun h => rfl
  have H1 : Hid ((⟨(b :: r).toArray⟩ : ByteArray).extract 1 (⟨(b :: r).toArray⟩ : ByteArray).size = ⟨r.toArray⟩) := Lib.hid (by
    apply ByteArray.ext
    apply Array.toList_inj.1
    rw [Lib.extract_data]
    simp [ByteArray.size])
  clear hd
  generalize hs : (⟨(b :: r).toArray⟩ : ByteArray) = s at *
  have HS := Lib.hid hs; clear hs
  go_enter Tryd.func86, Tryd.ntmps86
  go_wp2
  go_ret
  rw [H0.out hsz, H1.out]
  have h := HD.out
  exact ⟨rfl, At.set h 0 _, grownBy_set (grownBy_refl _ _) _ _⟩

/-- the error behind Done -/
def doneErr (l : List UInt8) (e : Nat) : Nat := if l = [] then e else if e = 0 then 3 else e

set_option maxHeartbeats 400000 in
theorem done_any (g : Nat) (l : List UInt8) (e : Nat) (w : World) (hd : DecIs w g l e) :
    Calls Tryd.prog 81 #[.pointer (some ⟨g, 0, none⟩)] w (DecRet g l (doneErr l e) (.int .i64 (doneErr l e : Nat)) w) := by
  have hc0 : w.cell? ⟨g, 0, none⟩ = some (.string ⟨l.toArray⟩) := At.cell hd 0
  have hc1 : w.cell? ⟨g, 1, none⟩ = some (.int .i64 (e : Nat)) := At.cell hd 1
  have hF := dfail_any g 3 l e w hd
  have HD := Lib.hid hd; clear hd
  unfold doneErr
  by_cases hl : l = []
  · subst hl
    rw [if_pos rfl]
    clear hF
    go_enter Tryd.func81, Tryd.ntmps81
    go_wp2
    go_ret
    exact ⟨rfl, HD.out, grownBy_refl _ _⟩
  · rw [if_neg hl]
    have hsz : 0 < (⟨l.toArray⟩ : ByteArray).size := by simpa [ByteArray.size] using List.length_pos_iff.2 hl
    clear hl
    generalize (if e = 0 then 3 else e) = e' at *
    generalize hs : (⟨l.toArray⟩ : ByteArray) = s at *
    have HS := Lib.hid hs; clear hs
    go_enter Tryd.func81, Tryd.ntmps81
    go_wp2_with fail
    refine hF.mono ?_
    rintro x w1 ⟨rfl, hd1, hg⟩
    have hk1 : w1.cell? ⟨g, 1, none⟩ = some (.int .i64 (e' : Nat)) := At.cell hd1 1
    have H1 := Lib.hid hd1; clear hd1 hF
    go_wp2
    go_ret
    exact ⟨rfl, H1.out, hg⟩

end Go.Proofs.YtniecodpdmjppaaDoor
