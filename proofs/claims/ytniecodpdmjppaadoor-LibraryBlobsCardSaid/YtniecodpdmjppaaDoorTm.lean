/- The mathematics of blobs on a tape: a piece, its bytes, what is read of bytes; a blob's pieces; reading and scanning a row of blocks. -/
import Derived.Test.YtniecodpdmjppaaDoorSc
import Derived.Test.YtniecodpdmjppaaDoorCr
import Derived.Test.YtniecodpdmjppaaDoorOl
import Derived.Test.YtniecodpdmjppaaDoorVl
namespace Go.Proofs.YtniecodpdmjppaaDoor
open Go.RowKit
open Wm (num tk)
open Sm
set_option linter.unusedVariables false

/-- what a block says -/
structure Pc where
  lab : ByteArray
  blk : Nat
  id : Nat
  part : Nat
  parts : Nat
  size : Nat
  sum : Nat
  data : ByteArray
def Pc.no : Pc := ⟨⟨#[]⟩, 0, 0, 0, 0, 0, 0, ⟨#[]⟩⟩
structure Pc.ok (p : Pc) : Prop where
  lab : p.lab.size ≤ 32
  blk : p.blk ≤ 1073741824
  id : p.id < 18446744073709551616
  part : p.part < p.parts
  parts : p.parts ≤ 1048576
  size : p.size ≤ 4000
  sum : p.sum < 4294967296
  data : p.data.size ≤ 200
def Pc.enc (p : Pc) : List UInt8 := text p.lab ++ num p.blk ++ num p.id ++ (num p.part ++ num p.parts ++ num p.size) ++ num p.sum ++ text p.data
def Pc.spell (p : Pc) : List UInt8 := frameL p.enc

/-- how long a piece is -/
theorem enc_len {p : Pc} (h : p.ok) (hb : p.blk ≤ 1000000) (hp : p.parts ≤ 100) : p.enc.length ≤ 59 + p.data.size := by
  have h1 := num_lt 0 p.lab.size (by have := h.lab; omega)
  have h2 := num_lt 2 p.blk (by omega)
  have h3 := Wm.num_len p.id h.id
  have h4 := num_lt 0 p.part (by have := h.part; omega)
  have h5 := num_lt 0 p.parts (by omega)
  have h6 := num_lt 1 p.size (by have := h.size; omega)
  have h7 := num_lt 4 p.sum (by have := h.sum; omega)
  have h8 := num_lt 1 p.data.size (by have := h.data; omega)
  have h9 := h.lab
  unfold Pc.enc
  simp only [List.length_append, text_len]
  omega
theorem enc_max {p : Pc} (h : p.ok) : p.enc.length ≤ 400 := by
  have h1 := num_lt 0 p.lab.size (by have := h.lab; omega)
  have h2 := num_lt 4 p.blk (by have := h.blk; omega)
  have h3 := Wm.num_len p.id h.id
  have hpp := h.part
  have h4 := num_lt 2 p.part (by have := h.parts; omega)
  have h5 := num_lt 2 p.parts (by have := h.parts; omega)
  have h6 := num_lt 1 p.size (by have := h.size; omega)
  have h7 := num_lt 4 p.sum (by have := h.sum; omega)
  have h8 := num_lt 1 p.data.size (by have := h.data; omega)
  have h9 := h.lab
  have h10 := h.data
  unfold Pc.enc
  simp only [List.length_append, text_len]
  omega

/-- what is read of a text -/
def pcOf (a : List UInt8) (b c d f g h : Nat) (k : List UInt8) : Pc := ⟨⟨a.toArray⟩, b, c, d, f, g, h % 4294967296, ⟨k.toArray⟩⟩
def parseErr (d f h : Nat) (r : List UInt8) (e : Nat) : Nat := doneErr r (if 4294967295 < h ∨ f ≤ d then (if e = 0 then 3 else e) else e)
structure Took where
  a : (List UInt8 × Nat) × List UInt8
  b : (List UInt8 × Nat) × Nat
  c : (List UInt8 × Nat) × Nat
  d : (List UInt8 × Nat) × Nat
  f : (List UInt8 × Nat) × Nat
  g : (List UInt8 × Nat) × Nat
  h : (List UInt8 × Nat) × Nat
  k : (List UInt8 × Nat) × List UInt8
def took (t : List UInt8) : Took :=
  let a := curS (t, 0) 32
  let b := curI a.1 1073741824
  let c := curU b.1
  let d := curI c.1 1048576
  let f := curI d.1 1048576
  let g := curI f.1 4000
  let h := curU g.1
  ⟨a, b, c, d, f, g, h, curS h.1 200⟩
def Took.err (t : Took) : Nat := parseErr t.d.2 t.f.2 t.h.2 t.k.1.1 t.k.1.2
def Took.pc (t : Took) : Pc := pcOf t.a.2 t.b.2 t.c.2 t.d.2 t.f.2 t.g.2 t.h.2 t.k.2
def parseL (l : List UInt8) : Pc × Nat :=
  if (onlyL l).2 ≠ 0 then (.no, (onlyL l).2) else if (took (onlyL l).1).err ≠ 0 then (.no, (took (onlyL l).1).err) else ((took (onlyL l).1).pc, 0)

theorem took_enc {p : Pc} (h : p.ok) : took p.enc = ⟨((num p.blk ++ num p.id ++ (num p.part ++ num p.parts ++ num p.size) ++ num p.sum ++ text p.data, 0), p.lab.data.toList),
    ((num p.id ++ (num p.part ++ num p.parts ++ num p.size) ++ num p.sum ++ text p.data, 0), p.blk), (((num p.part ++ num p.parts ++ num p.size) ++ num p.sum ++ text p.data, 0), p.id),
    ((num p.parts ++ num p.size ++ num p.sum ++ text p.data, 0), p.part), ((num p.size ++ num p.sum ++ text p.data, 0), p.parts), ((num p.sum ++ text p.data, 0), p.size), ((text p.data, 0), p.sum), (([], 0), p.data.data.toList)⟩ := by
  have hb := h.blk
  have hpt := h.part
  have hps := h.parts
  have hsz := h.size
  have hsm := h.sum
  have ea : curS (p.enc, 0) 32 = ((num p.blk ++ num p.id ++ (num p.part ++ num p.parts ++ num p.size) ++ num p.sum ++ text p.data, 0), p.lab.data.toList) := by
    have := curS_text p.lab (num p.blk ++ num p.id ++ (num p.part ++ num p.parts ++ num p.size) ++ num p.sum ++ text p.data) 32 h.lab (by omega)
    rw [← this]; unfold Pc.enc; simp only [List.append_assoc]
  have eb := curI_num p.blk 1073741824 (num p.id ++ (num p.part ++ num p.parts ++ num p.size) ++ num p.sum ++ text p.data) (by omega) hb
  have ec := curU_num p.id ((num p.part ++ num p.parts ++ num p.size) ++ num p.sum ++ text p.data) h.id
  have ed := curI_num p.part 1048576 (num p.parts ++ num p.size ++ num p.sum ++ text p.data) (by omega) (by omega)
  have ef := curI_num p.parts 1048576 (num p.size ++ num p.sum ++ text p.data) (by omega) hps
  have eg := curI_num p.size 4000 (num p.sum ++ text p.data) (by omega) hsz
  have eh := curU_num p.sum (text p.data) (by omega)
  have ek := curS_text p.data [] 200 h.data (by omega)
  rw [List.append_nil] at ek
  simp only [← List.append_assoc] at eb ec ed ef eg eh ek ea ⊢
  unfold took
  simp only [ea, eb, ec, ed, ef, eg, eh, ek]
theorem parseErr_ok {d f h : Nat} (h1 : d < f) (h2 : h < 4294967296) : parseErr d f h [] 0 = 0 := by
  unfold parseErr doneErr
  rw [if_pos rfl, if_neg (by omega)]
theorem parse_spell {p : Pc} (h : p.ok) : parseL p.spell = (p, 0) := by
  have h1 := h.part
  have h2 := h.sum
  have he : (took p.enc).err = 0 := by
    rw [took_enc h]
    exact parseErr_ok h1 h2
  unfold parseL Pc.spell
  rw [only_frame p.enc (by have := enc_max h; omega), if_neg (by simp)]
  simp only
  rw [if_neg (by rw [he]; simp), took_enc h]
  unfold Took.pc pcOf
  simp only [list_string]
  rw [Nat.mod_eq_of_lt h2]

/-! a blob's pieces -/
def partsOf (n : Nat) : Nat := (max n 1 - 1) / 200 + 1
def chunkOf (d : List UInt8) (i : Nat) : List UInt8 := (d.drop (200 * i)).take 200
def pieceOf (lab : ByteArray) (first id : Nat) (d : List UInt8) (i : Nat) : Pc := ⟨lab, first + i, id, i, partsOf d.length, d.length, crc d, ⟨(chunkOf d i).toArray⟩⟩
def pieceBlk (p : Pc) : Blk := ⟨⟨p.spell.toArray⟩, false, false⟩
def markBlk : Blk := ⟨⟨#[]⟩, true, false⟩
def blobBlks (lab : ByteArray) (first id : Nat) (d : List UInt8) : List Blk := (List.range (partsOf d.length)).map fun i => pieceBlk (pieceOf lab first id d i)

theorem partsOf_pos (n : Nat) : 0 < partsOf n := by unfold partsOf; omega
theorem partsOf_le {n : Nat} (h : n ≤ 4000) : partsOf n ≤ 20 := by unfold partsOf; omega
theorem partsOf_bd (n : Nat) : n ≤ 200 * partsOf n ∧ (200 * (partsOf n - 1) < n ∨ partsOf n = 1) := by unfold partsOf; omega
theorem chunk_len (d : List UInt8) (i : Nat) : (chunkOf d i).length ≤ 200 := by unfold chunkOf; exact List.length_take_le _ _
theorem chunk_take (d : List UInt8) (i : Nat) : d.take (200 * i) ++ chunkOf d i = d.take (200 * (i + 1)) := by
  unfold chunkOf
  rw [Nat.mul_add, Nat.mul_one, List.take_add]
theorem pieceOf_ok {lab : ByteArray} {first id i : Nat} {d : List UInt8} (hl : lab.size ≤ 32) (hf : first + i ≤ 1000000) (hid : id < 18446744073709551616) (hd : d.length ≤ 4000) (hi : i < partsOf d.length) : (pieceOf lab first id d i).ok :=
  ⟨hl, by show first + i ≤ _; omega, hid, hi, by show partsOf d.length ≤ _; have := partsOf_le hd; omega, hd, crc_lt d, by show (⟨(chunkOf d i).toArray⟩ : ByteArray).size ≤ 200; rw [str_len]; exact chunk_len d i⟩
theorem blobBlks_len (lab : ByteArray) (first id : Nat) (d : List UInt8) : (blobBlks lab first id d).length = partsOf d.length := by unfold blobBlks; simp
theorem blobBlks_get {lab : ByteArray} {first id : Nat} {d : List UInt8} {i : Nat} (h : i < partsOf d.length) : (blobBlks lab first id d)[i]? = some (pieceBlk (pieceOf lab first id d i)) := by
  unfold blobBlks
  rw [List.getElem?_map, List.getElem?_range h]
  rfl

/-! reading a blob -/
/-- of the blocks from here on -/
def rdGo (lab : ByteArray) (from_ id : Nat) : List Blk → Nat → List UInt8 → List UInt8 × Nat
  | [], _, _ => ([], 2)
  | b :: r, part, acc =>
    if b.torn = true then ([], 4) else
    if b.mark = true then ([], 3) else
    if (parseL b.t.data.toList).2 ≠ 0 then ([], (parseL b.t.data.toList).2) else
    if (parseL b.t.data.toList).1.lab ≠ lab ∨ (parseL b.t.data.toList).1.blk ≠ from_ + part ∨ (parseL b.t.data.toList).1.id ≠ id ∨ (parseL b.t.data.toList).1.part ≠ part ∨ (parseL b.t.data.toList).1.parts ≠ partsOf (parseL b.t.data.toList).1.size then ([], 3) else
    if part + 1 = (parseL b.t.data.toList).1.parts then
      (if (acc ++ (parseL b.t.data.toList).1.data.data.toList).length ≠ (parseL b.t.data.toList).1.size ∨ crc (acc ++ (parseL b.t.data.toList).1.data.data.toList) ≠ (parseL b.t.data.toList).1.sum then ([], 4) else (acc ++ (parseL b.t.data.toList).1.data.data.toList, 0))
    else rdGo lab from_ id r (part + 1) (acc ++ (parseL b.t.data.toList).1.data.data.toList)

theorem drop_range {n k : Nat} (h : k < n) : (List.range n).drop k = k :: (List.range n).drop (k + 1) := by
  rw [List.drop_eq_getElem_cons (by simpa using h)]
  simp
theorem rd_blob {lab : ByteArray} {first id : Nat} {d : List UInt8} (hl : lab.size ≤ 32) (hf : first + 20 ≤ 1000000) (hid : id < 18446744073709551616) (hd : d.length ≤ 4000) (rest : List Blk) :
    ∀ (m k : Nat), k + m = partsOf d.length → 0 < m → rdGo lab first id ((blobBlks lab first id d).drop k ++ rest) k (d.take (200 * k)) = (d, 0) := by
  intro m
  have h20 := partsOf_le hd
  induction m with
  | zero => intro k _ h; omega
  | succ m ih =>
    intro k hk _
    have hkl : k < partsOf d.length := by omega
    have hdr : (blobBlks lab first id d).drop k = pieceBlk (pieceOf lab first id d k) :: (blobBlks lab first id d).drop (k + 1) := by
      unfold blobBlks
      rw [← List.map_drop, drop_range hkl, List.map_cons, List.map_drop]
    have hps := parse_spell (pieceOf_ok hl (by omega : first + k ≤ 1000000) hid hd hkl)
    have hbt : (pieceBlk (pieceOf lab first id d k)).t.data.toList = (pieceOf lab first id d k).spell := rfl
    have hdt : (pieceOf lab first id d k).data.data.toList = chunkOf d k := rfl
    rw [hdr, List.cons_append]
    unfold rdGo
    rw [hbt, hps, if_neg (by simp [pieceBlk]), if_neg (by simp [pieceBlk]), if_neg (by simp), if_neg (by simp [pieceOf])]
    simp only [hdt]
    rw [chunk_take]
    by_cases hlast : k + 1 = partsOf d.length
    · have hall : d.take (200 * (k + 1)) = d := List.take_of_length_le (by have := (partsOf_bd d.length).1; rw [hlast]; exact this)
      rw [if_pos (show k + 1 = (pieceOf lab first id d k).parts from hlast), hall, if_neg (by simp [pieceOf])]
    · rw [if_neg (show ¬ k + 1 = (pieceOf lab first id d k).parts from hlast)]
      exact ih (k + 1) (by omega) (by omega)
theorem rd_whole {lab : ByteArray} {first id : Nat} {d : List UInt8} (hl : lab.size ≤ 32) (hf : first + 20 ≤ 1000000) (hid : id < 18446744073709551616) (hd : d.length ≤ 4000) (rest : List Blk) :
    rdGo lab first id (blobBlks lab first id d ++ rest) 0 [] = (d, 0) := by
  have := rd_blob hl hf hid hd rest (partsOf d.length) 0 (by omega) (partsOf_pos _)
  simpa using this

/-! scanning -/
structure It where
  id : Nat
  from_ : Nat
  size : Nat
/-- the blob that begins at block n -/
def itemAt (lab : ByteArray) (l : List Blk) (n : Nat) : It × Nat :=
  match l[n]? with
  | none => (⟨0, 0, 0⟩, 2)
  | some b =>
    if b.torn = true then (⟨0, 0, 0⟩, 4) else
    if b.mark = true then (⟨0, 0, 0⟩, 3) else
    if (parseL b.t.data.toList).2 ≠ 0 then (⟨0, 0, 0⟩, (parseL b.t.data.toList).2) else
    if (rdGo lab n (parseL b.t.data.toList).1.id (l.drop n) 0 []).2 ≠ 0 then (⟨0, 0, 0⟩, (rdGo lab n (parseL b.t.data.toList).1.id (l.drop n) 0 []).2) else
    (⟨(parseL b.t.data.toList).1.id, n, (rdGo lab n (parseL b.t.data.toList).1.id (l.drop n) 0 []).1.length⟩, 0)
/-- the blobs from block n on; the end of the last one's parts, if there is one -/
def scanF (lab : ByteArray) (l : List Blk) (n e : Nat) : List It × Nat :=
  if _h : n < l.length then
    if (itemAt lab l n).2 = 0 then ((itemAt lab l n).1 :: (scanF lab l (n + partsOf (itemAt lab l n).1.size) (n + partsOf (itemAt lab l n).1.size)).1, (scanF lab l (n + partsOf (itemAt lab l n).1.size) (n + partsOf (itemAt lab l n).1.size)).2)
    else scanF lab l (n + 1) e
  else ([], e)
termination_by l.length - n
decreasing_by all_goals (have := partsOf_pos (itemAt lab l n).1.size; omega)

theorem scanF_end {lab : ByteArray} {l : List Blk} {n e : Nat} (h : ¬ n < l.length) : scanF lab l n e = ([], e) := by rw [scanF, dif_neg h]
theorem scanF_hit {lab : ByteArray} {l : List Blk} {n e : Nat} (h : n < l.length) (h0 : (itemAt lab l n).2 = 0) : scanF lab l n e = ((itemAt lab l n).1 :: (scanF lab l (n + partsOf (itemAt lab l n).1.size) (n + partsOf (itemAt lab l n).1.size)).1, (scanF lab l (n + partsOf (itemAt lab l n).1.size) (n + partsOf (itemAt lab l n).1.size)).2) := by rw [scanF, dif_pos h, if_pos h0]
theorem scanF_miss {lab : ByteArray} {l : List Blk} {n e : Nat} (h : n < l.length) (h0 : (itemAt lab l n).2 ≠ 0) : scanF lab l n e = scanF lab l (n + 1) e := by rw [scanF, dif_pos h, if_neg h0]

theorem item_blob {lab : ByteArray} {id n : Nat} {d : List UInt8} {pre rest : List Blk} (hl : lab.size ≤ 32) (hf : n + 20 ≤ 1000000) (hid : id < 18446744073709551616) (hd : d.length ≤ 4000) (hn : pre.length = n) :
    itemAt lab (pre ++ (blobBlks lab n id d ++ rest)) n = (⟨id, n, d.length⟩, 0) := by
  subst hn
  have hp := partsOf_pos d.length
  have hps := parse_spell (pieceOf_ok hl (by omega : pre.length + 0 ≤ 1000000) hid hd hp)
  have hg : (pre ++ (blobBlks lab pre.length id d ++ rest))[pre.length]? = some (pieceBlk (pieceOf lab pre.length id d 0)) := by
    rw [List.getElem?_append_right (Nat.le_refl _), Nat.sub_self, List.getElem?_append_left (by rw [blobBlks_len]; exact hp), blobBlks_get hp]
  have hbt : (pieceBlk (pieceOf lab pre.length id d 0)).t.data.toList = (pieceOf lab pre.length id d 0).spell := rfl
  unfold itemAt
  rw [hg]
  simp only
  rw [hbt, hps, if_neg (by simp [pieceBlk]), if_neg (by simp [pieceBlk]), if_neg (by simp)]
  rw [show (pieceOf lab pre.length id d 0).id = id from rfl, List.drop_left, rd_whole hl hf hid hd rest, if_neg (by simp)]
theorem item_mark {lab : ByteArray} {l : List Blk} {n : Nat} (h : l[n]? = some markBlk) : (itemAt lab l n).2 = 3 := by
  unfold itemAt
  rw [h]
  simp [markBlk]
end Go.Proofs.YtniecodpdmjppaaDoor
