/- Own texts, joined: J1, J2, Msg1, Msg2, Msg3, StrB, BytesL2, Msg4. -/
import Derived.Test.YtonpmabdjngdcaaGreatDoorM4
import Derived.Lib.ConvBytes
import Derived.Test.YtonpmabdjngdcaaGreatDoorM2

/- Package journal: a record is written. -/
namespace Go.Proofs.YtonpmabdjngdcaaGreatDoor
open Go.RowKit
set_option maxRecDepth 100000

/-- The tables that package code reads. -/
structure Tb (w : World) : Prop where
  wid : Wid w
  crc : ∀ i, i < 16 → w.cell? ⟨0, i, none⟩ = some (.int .u32 (Crc.T i : Nat))
theorem Tb.since {w w' : World} (h : Tb w) (hs : w.Since w.heap.size w') : Tb w' :=
  ⟨h.wid.since hs, fun i hi => by rw [hs.cell (a := ⟨0, i, none⟩) (World.block_lt_of_cell? _ _ (h.crc i hi))]; exact h.crc i hi⟩
/-- A Writer of new memory. -/
def Wr (w0 w : World) (wb : Nat) (l : List Nat) : Prop := w0.heap.size ≤ wb ∧ w0.Since w0.heap.size w ∧ ∃ B v, w0.heap.size ≤ B ∧ IsL w wb B v l
theorem Own.ge {w : World} {B : Nat} {v : Value} {n : Nat} {x : Nat → Nat} (h : Own w B v n x) : ∀ k, v.ownBlock = some k → B ≤ k := own_block h
theorem Wr.on {w0 w w' : World} {wb : Nat} {l : List Nat} (h : Wr w0 w wb l) {v v' : Value} {B : Nat} {l' : List Nat} (hB : w0.heap.size ≤ B) (h1 : IsL w wb B v l) (h2 : IsL w' wb B v' l') (he : Ext wb v v' w w') : Wr w0 w' wb l' :=
  ⟨h.1, he.since h.2.1 h.1 h.2.1.size (fun k e => Nat.le_trans hB (Own.ge h1.own k e)), B, v', hB, h2⟩
end Go.Proofs.YtonpmabdjngdcaaGreatDoor

/- Package journal: bodyOf, record. -/
namespace Go.Proofs.YtonpmabdjngdcaaGreatDoor
open Go.RowKit
set_option maxRecDepth 100000

section
variable {w0 w : World} {wb : Nat} {l : List Nat}
theorem Wr.new (w0 w : World) (h : w0.Since w0.heap.size w) : Calls Tryz.prog 35 #[] w fun e w' => ∃ wb, e = .returned (.pointer (some ⟨wb, 0, none⟩)) ∧ Wr w0 w' wb [] :=
  (new_w w).mono fun e w' ⟨he, hs, hz, hI⟩ => ⟨w.heap.size, he, h.size, h.trans (since_mono hs h.size), w'.heap.size, _, by rw [hz]; exact Nat.le_succ_of_le h.size, hI _⟩
theorem Wr.u8 (h : Wr w0 w wb l) (ht : Tb w0) (N : Nat) (hN : N < 256) (hm : l.length ≤ 100000000000) : Calls Tryz.prog 82 #[.pointer (some ⟨wb, 0, none⟩), .int .u8 N] w fun e w' => e = .returned (.tuple #[]) ∧ Wr w0 w' wb (l ++ fl 1 N) := by
  obtain ⟨B, v, hB, hI⟩ := h.2.2
  exact (u8_l wb B v l N w hI (ht.since h.2.1).wid hN (by omega)).mono fun e w' ⟨he, v', h1, h2⟩ => ⟨he, h.on hB hI h1 h2⟩
theorem Wr.u32 (h : Wr w0 w wb l) (ht : Tb w0) (N : Nat) (hN : N < 4294967296) (hm : l.length ≤ 100000000000) : Calls Tryz.prog 37 #[.pointer (some ⟨wb, 0, none⟩), .int .u32 N] w fun e w' => e = .returned (.tuple #[]) ∧ Wr w0 w' wb (l ++ fl 4 N) := by
  obtain ⟨B, v, hB, hI⟩ := h.2.2
  exact (u32_l wb B v l N w hI (ht.since h.2.1).wid hN (by omega)).mono fun e w' ⟨he, v', h1, h2⟩ => ⟨he, h.on hB hI h1 h2⟩
theorem Wr.raw (h : Wr w0 w wb l) (a : Option Addr) (m c : Nat) (y : Nat → Nat) (hb : Byt w a m y) (ha : a = none → m = 0 ∧ c = 0) (hm : l.length + m ≤ 100000000000) : Calls Tryz.prog 157 #[.pointer (some ⟨wb, 0, none⟩), .slice a m c] w fun e w' => e = .returned (.tuple #[]) ∧ Wr w0 w' wb (l ++ (List.range m).map y) := by
  obtain ⟨B, v, hB, hI⟩ := h.2.2
  exact (raw_l wb B v l a m c y w hI hb ha (by omega)).mono fun e w' ⟨he, v', h1, h2⟩ => ⟨he, h.on hB hI h1 h2⟩
theorem Wr.bytes (h : Wr w0 w wb l) (a : Option Addr) (m c : Nat) (y : Nat → Nat) (hb : Byt w0 a m y) (ha : a = none → m = 0 ∧ c = 0) (hlt : ∀ q, a = some q → q.block < w0.heap.size) (hm : l.length + m ≤ 100000000000) : Calls Tryz.prog 128 #[.pointer (some ⟨wb, 0, none⟩), .slice a m c] w fun e w' => e = .returned (.tuple #[]) ∧ Wr w0 w' wb (l ++ partL ((List.range m).map y)) := by
  obtain ⟨B, v, hB, hI⟩ := h.2.2
  have h1 := h.1
  refine (bytes_l wb B v l a m c y w hI (hb.since h.2.1) ha (by omega) (fun b off e => ?_)).mono fun e w' ⟨he, v', h1, h2⟩ => ⟨he, ?_⟩
  · have hq := hlt _ e
    have hq : b < w0.heap.size := hq
    refine ⟨by omega, fun e2 => ?_⟩
    have := own_block hI.own b e2.symm
    omega
  · have := h.on hB hI h1 h2
    have el : (List.range m).length = m := by simp
    unfold partL
    rw [List.length_map, el, ← List.append_assoc]
    exact this
theorem Wr.out (h : Wr w0 w wb l) (hm : l.length ≤ 100000000000) : Calls Tryz.prog 39 #[.pointer (some ⟨wb, 0, none⟩)] w fun e w' => ∃ g, e = .returned (.slice (some ⟨g, 0, none⟩) l.length l.length) ∧ w0.heap.size ≤ g ∧ w'.rowIs g 5 l.length (fun j => .int .u8 (l.getD j 0 : Nat)) ∧ Wr w0 w' wb l := by
  obtain ⟨B, v, hB, hI⟩ := h.2.2
  refine (out_w wb B v l.length _ w hI (by omega)).mono fun e w' ⟨he, hs, hz, hr⟩ => ⟨w.heap.size, he, h.2.1.size, hr, h.1, h.2.1.trans (since_mono hs h.2.1.size), B, v, hB, ?_⟩
  exact ⟨row_since hI.cell hs, own_since hI.own hs, hI.ne, Nat.le_trans hI.lo hs.size⟩
end

/-- A part that is handed in. -/
structure Pt where
  a : Option Addr
  n : Nat
  c : Nat
  y : Nat → Nat
def Pt.bs (p : Pt) : List Nat := (List.range p.n).map p.y
theorem Pt.len (p : Pt) : p.bs.length = p.n := by simp [Pt.bs]
structure Pt.ok (p : Pt) (w : World) : Prop where
  byt : Byt w p.a p.n p.y
  nil : p.a = none → p.n = 0 ∧ p.c = 0
  lt : ∀ q, p.a = some q → q.block < w.heap.size
  byte : ∀ j, p.y j < 256
/-- Parts that are handed in. -/
structure Rws (w : World) (a : Option Addr) (L : List Pt) : Prop where
  cell : ∀ i p, L[i]? = some p → ∃ b o, a = some ⟨b, o, none⟩ ∧ w.cell? ⟨b, o + i, none⟩ = some (.slice p.a p.n p.c)
  ok : ∀ p ∈ L, p.ok w
theorem Pt.ok.since {p : Pt} {w w' : World} (h : p.ok w) (hs : w.Since w.heap.size w') : p.ok w' := ⟨h.byt.since hs, h.nil, fun q e => Nat.lt_of_lt_of_le (h.lt q e) hs.size, h.byte⟩
theorem Rws.since {w w' : World} {a : Option Addr} {L : List Pt} (h : Rws w a L) (hs : w.Since w.heap.size w') : Rws w' a L :=
  ⟨fun i p hp => by
    obtain ⟨b, o, e, hc⟩ := h.cell i p hp
    exact ⟨b, o, e, by rw [hs.cell (a := ⟨b, o + i, none⟩) (World.block_lt_of_cell? _ _ hc)]; exact hc⟩, fun p hp => (h.ok p hp).since hs⟩
def lensP : List Pt → Nat
  | [] => 0
  | p :: ps => p.n + 10 + lensP ps
theorem partL_len (p : Pt) : (partL p.bs).length ≤ p.n + 10 := by
  unfold partL
  have := vl_len 9 p.bs.length
  rw [List.length_append, Pt.len] at *
  omega
theorem lens_drop {L : List Pt} {i : Nat} {p : Pt} (h : L[i]? = some p) : lensP (L.drop i) = p.n + 10 + lensP (L.drop (i + 1)) ∧ L.take (i + 1) = L.take i ++ [p] := by
  have hi := (List.getElem?_eq_some_iff.1 h).1
  have e : L[i] = p := (List.getElem?_eq_some_iff.1 h).2
  refine ⟨?_, ?_⟩
  · rw [List.drop_eq_getElem_cons hi, e]
    rfl
  · rw [List.take_add_one, h]
    rfl

end Go.Proofs.YtonpmabdjngdcaaGreatDoor

/- Package message: where the fields lie. -/
namespace Go.Proofs.YtonpmabdjngdcaaGreatDoor
open Go.RowKit
set_option maxRecDepth 100000

/-- A function value that may be called. -/
def Ent (k : FuncId) : Prop := ∀ (args : Array Value) (w : World), (callFunc k args).run Tryz.prog w = .ok (.enter k args) w
/-- A function value that tells where a field lies. -/
structure IsAt (k : FuncId) (c : Nat) : Prop where
  ent : Ent k
  call : ∀ mb w, Calls Tryz.prog k #[.pointer (some ⟨mb, 0, none⟩)] w fun e w' => e = .returned (.pointer (some ⟨mb, c, none⟩)) ∧ w' = w
theorem isAt4 : IsAt 58 4 := by
  refine ⟨fun _ _ => rfl, fun mb w => ?_⟩
  go_enter Tryz.func58, Tryz.ntmps58
  go_wp2
  go_ret
  exact ⟨rfl, rfl⟩
theorem isAt5 : IsAt 60 5 := by
  refine ⟨fun _ _ => rfl, fun mb w => ?_⟩
  go_enter Tryz.func60, Tryz.ntmps60
  go_wp2
  go_ret
  exact ⟨rfl, rfl⟩
theorem isAt6 : IsAt 61 6 := by
  refine ⟨fun _ _ => rfl, fun mb w => ?_⟩
  go_enter Tryz.func61, Tryz.ntmps61
  go_wp2
  go_ret
  exact ⟨rfl, rfl⟩
theorem isAt7 : IsAt 62 7 := by
  refine ⟨fun _ _ => rfl, fun mb w => ?_⟩
  go_enter Tryz.func62, Tryz.ntmps62
  go_wp2
  go_ret
  exact ⟨rfl, rfl⟩
theorem isAt8 : IsAt 64 8 := by
  refine ⟨fun _ _ => rfl, fun mb w => ?_⟩
  go_enter Tryz.func64, Tryz.ntmps64
  go_wp2
  go_ret
  exact ⟨rfl, rfl⟩
theorem isAt9 : IsAt 65 9 := by
  refine ⟨fun _ _ => rfl, fun mb w => ?_⟩
  go_enter Tryz.func65, Tryz.ntmps65
  go_wp2
  go_ret
  exact ⟨rfl, rfl⟩
theorem isAt11 : IsAt 68 11 := by
  refine ⟨fun _ _ => rfl, fun mb w => ?_⟩
  go_enter Tryz.func68, Tryz.ntmps68
  go_wp2
  go_ret
  exact ⟨rfl, rfl⟩
theorem isAt12 : IsAt 69 12 := by
  refine ⟨fun _ _ => rfl, fun mb w => ?_⟩
  go_enter Tryz.func69, Tryz.ntmps69
  go_wp2
  go_ret
  exact ⟨rfl, rfl⟩
theorem isAt13 : IsAt 71 13 := by
  refine ⟨fun _ _ => rfl, fun mb w => ?_⟩
  go_enter Tryz.func71, Tryz.ntmps71
  go_wp2
  go_ret
  exact ⟨rfl, rfl⟩
theorem isAt14 : IsAt 72 14 := by
  refine ⟨fun _ _ => rfl, fun mb w => ?_⟩
  go_enter Tryz.func72, Tryz.ntmps72
  go_wp2
  go_ret
  exact ⟨rfl, rfl⟩
theorem isAt15 : IsAt 73 15 := by
  refine ⟨fun _ _ => rfl, fun mb w => ?_⟩
  go_enter Tryz.func73, Tryz.ntmps73
  go_wp2
  go_ret
  exact ⟨rfl, rfl⟩
theorem isAt16 : IsAt 74 16 := by
  refine ⟨fun _ _ => rfl, fun mb w => ?_⟩
  go_enter Tryz.func74, Tryz.ntmps74
  go_wp2
  go_ret
  exact ⟨rfl, rfl⟩
theorem isAt17 : IsAt 75 17 := by
  refine ⟨fun _ _ => rfl, fun mb w => ?_⟩
  go_enter Tryz.func75, Tryz.ntmps75
  go_wp2
  go_ret
  exact ⟨rfl, rfl⟩
theorem isAt18 : IsAt 76 18 := by
  refine ⟨fun _ _ => rfl, fun mb w => ?_⟩
  go_enter Tryz.func76, Tryz.ntmps76
  go_wp2
  go_ret
  exact ⟨rfl, rfl⟩
theorem isAt19 : IsAt 77 19 := by
  refine ⟨fun _ _ => rfl, fun mb w => ?_⟩
  go_enter Tryz.func77, Tryz.ntmps77
  go_wp2
  go_ret
  exact ⟨rfl, rfl⟩
theorem isAt20 : IsAt 78 20 := by
  refine ⟨fun _ _ => rfl, fun mb w => ?_⟩
  go_enter Tryz.func78, Tryz.ntmps78
  go_wp2
  go_ret
  exact ⟨rfl, rfl⟩
theorem isAt21 : IsAt 138 21 := by
  refine ⟨fun _ _ => rfl, fun mb w => ?_⟩
  go_enter Tryz.func138, Tryz.ntmps138
  go_wp2
  go_ret
  exact ⟨rfl, rfl⟩
end Go.Proofs.YtonpmabdjngdcaaGreatDoor

/- Package message: within, isKind, isBelow, isUsed. -/
namespace Go.Proofs.YtonpmabdjngdcaaGreatDoor
open Go.RowKit
set_option maxRecDepth 100000

set_option maxHeartbeats 1000000 in
theorem withinU (n most : Int) (used : Bool) (w : World) : Calls Tryz.prog 114 #[.int .u64 n, .int .u64 most, .bool used] w fun e w' => e = .returned (.bool (decide (0 ≤ n ∧ n ≤ (if used then most else 0)))) ∧ w' = w := by
  by_cases h0 : 0 ≤ n
  · have b0 : decide (0 ≤ n) = true := decide_eq_true h0
    have c0 : n ≥ 0 := h0
    cases used with
    | false =>
      by_cases h1 : n ≤ 0
      · have b1 : decide (n ≤ 0) = true := decide_eq_true h1
        have HE : Hid (decide (0 ≤ n ∧ n ≤ (if false = true then most else 0)) = true) := decide_eq_true ⟨h0, by simpa using h1⟩
        rw [HE.out]
        go_enter Tryz.func114, Tryz.ntmps114
        go_wp2
        go_ret
        exact ⟨by rfl, rfl⟩
      · have b1 : decide (n ≤ 0) = false := decide_eq_false h1
        have HE : Hid (decide (0 ≤ n ∧ n ≤ (if false = true then most else 0)) = false) := decide_eq_false (fun e => h1 (by simpa using e.2))
        rw [HE.out]
        go_enter Tryz.func114, Tryz.ntmps114
        go_wp2
        go_ret
        exact ⟨by rfl, rfl⟩
    | true =>
      by_cases h1 : n ≤ most
      · have b1 : decide (n ≤ most) = true := decide_eq_true h1
        have HE : Hid (decide (0 ≤ n ∧ n ≤ (if true = true then most else 0)) = true) := decide_eq_true ⟨h0, by simpa using h1⟩
        rw [HE.out]
        go_enter Tryz.func114, Tryz.ntmps114
        go_wp2
        go_ret
        exact ⟨by rfl, rfl⟩
      · have b1 : decide (n ≤ most) = false := decide_eq_false h1
        have HE : Hid (decide (0 ≤ n ∧ n ≤ (if true = true then most else 0)) = false) := decide_eq_false (fun e => h1 (by simpa using e.2))
        rw [HE.out]
        go_enter Tryz.func114, Tryz.ntmps114
        go_wp2
        go_ret
        exact ⟨by rfl, rfl⟩
  · have b0 : decide (0 ≤ n) = false := decide_eq_false h0
    have HE : Hid (decide (0 ≤ n ∧ n ≤ (if used then most else 0)) = false) := decide_eq_false (fun e => h0 e.1)
    rw [HE.out]
    cases used with
    | false =>
      go_enter Tryz.func114, Tryz.ntmps114
      go_wp2
      go_ret
      exact ⟨by rfl, rfl⟩
    | true =>
      go_enter Tryz.func114, Tryz.ntmps114
      go_wp2
      go_ret
      exact ⟨by rfl, rfl⟩
set_option maxHeartbeats 1000000 in
theorem withinI (n most : Int) (used : Bool) (w : World) : Calls Tryz.prog 123 #[.int .i64 n, .int .i64 most, .bool used] w fun e w' => e = .returned (.bool (decide (0 ≤ n ∧ n ≤ (if used then most else 0)))) ∧ w' = w := by
  by_cases h0 : 0 ≤ n
  · have b0 : decide (0 ≤ n) = true := decide_eq_true h0
    have c0 : n ≥ 0 := h0
    cases used with
    | false =>
      by_cases h1 : n ≤ 0
      · have b1 : decide (n ≤ 0) = true := decide_eq_true h1
        have HE : Hid (decide (0 ≤ n ∧ n ≤ (if false = true then most else 0)) = true) := decide_eq_true ⟨h0, by simpa using h1⟩
        rw [HE.out]
        go_enter Tryz.func123, Tryz.ntmps123
        go_wp2
        go_ret
        exact ⟨by rfl, rfl⟩
      · have b1 : decide (n ≤ 0) = false := decide_eq_false h1
        have HE : Hid (decide (0 ≤ n ∧ n ≤ (if false = true then most else 0)) = false) := decide_eq_false (fun e => h1 (by simpa using e.2))
        rw [HE.out]
        go_enter Tryz.func123, Tryz.ntmps123
        go_wp2
        go_ret
        exact ⟨by rfl, rfl⟩
    | true =>
      by_cases h1 : n ≤ most
      · have b1 : decide (n ≤ most) = true := decide_eq_true h1
        have HE : Hid (decide (0 ≤ n ∧ n ≤ (if true = true then most else 0)) = true) := decide_eq_true ⟨h0, by simpa using h1⟩
        rw [HE.out]
        go_enter Tryz.func123, Tryz.ntmps123
        go_wp2
        go_ret
        exact ⟨by rfl, rfl⟩
      · have b1 : decide (n ≤ most) = false := decide_eq_false h1
        have HE : Hid (decide (0 ≤ n ∧ n ≤ (if true = true then most else 0)) = false) := decide_eq_false (fun e => h1 (by simpa using e.2))
        rw [HE.out]
        go_enter Tryz.func123, Tryz.ntmps123
        go_wp2
        go_ret
        exact ⟨by rfl, rfl⟩
  · have b0 : decide (0 ≤ n) = false := decide_eq_false h0
    have HE : Hid (decide (0 ≤ n ∧ n ≤ (if used then most else 0)) = false) := decide_eq_false (fun e => h0 e.1)
    rw [HE.out]
    cases used with
    | false =>
      go_enter Tryz.func123, Tryz.ntmps123
      go_wp2
      go_ret
      exact ⟨by rfl, rfl⟩
    | true =>
      go_enter Tryz.func123, Tryz.ntmps123
      go_wp2
      go_ret
      exact ⟨by rfl, rfl⟩
set_option maxHeartbeats 1000000 in
theorem withinE (n most : Int) (used : Bool) (w : World) : Calls Tryz.prog 159 #[.int .i64 n, .int .i64 most, .bool used] w fun e w' => e = .returned (.bool (decide (0 ≤ n ∧ n ≤ (if used then most else 0)))) ∧ w' = w := by
  by_cases h0 : 0 ≤ n
  · have b0 : decide (0 ≤ n) = true := decide_eq_true h0
    have c0 : n ≥ 0 := h0
    cases used with
    | false =>
      by_cases h1 : n ≤ 0
      · have b1 : decide (n ≤ 0) = true := decide_eq_true h1
        have HE : Hid (decide (0 ≤ n ∧ n ≤ (if false = true then most else 0)) = true) := decide_eq_true ⟨h0, by simpa using h1⟩
        rw [HE.out]
        go_enter Tryz.func159, Tryz.ntmps159
        go_wp2
        go_ret
        exact ⟨by rfl, rfl⟩
      · have b1 : decide (n ≤ 0) = false := decide_eq_false h1
        have HE : Hid (decide (0 ≤ n ∧ n ≤ (if false = true then most else 0)) = false) := decide_eq_false (fun e => h1 (by simpa using e.2))
        rw [HE.out]
        go_enter Tryz.func159, Tryz.ntmps159
        go_wp2
        go_ret
        exact ⟨by rfl, rfl⟩
    | true =>
      by_cases h1 : n ≤ most
      · have b1 : decide (n ≤ most) = true := decide_eq_true h1
        have HE : Hid (decide (0 ≤ n ∧ n ≤ (if true = true then most else 0)) = true) := decide_eq_true ⟨h0, by simpa using h1⟩
        rw [HE.out]
        go_enter Tryz.func159, Tryz.ntmps159
        go_wp2
        go_ret
        exact ⟨by rfl, rfl⟩
      · have b1 : decide (n ≤ most) = false := decide_eq_false h1
        have HE : Hid (decide (0 ≤ n ∧ n ≤ (if true = true then most else 0)) = false) := decide_eq_false (fun e => h1 (by simpa using e.2))
        rw [HE.out]
        go_enter Tryz.func159, Tryz.ntmps159
        go_wp2
        go_ret
        exact ⟨by rfl, rfl⟩
  · have b0 : decide (0 ≤ n) = false := decide_eq_false h0
    have HE : Hid (decide (0 ≤ n ∧ n ≤ (if used then most else 0)) = false) := decide_eq_false (fun e => h0 e.1)
    rw [HE.out]
    cases used with
    | false =>
      go_enter Tryz.func159, Tryz.ntmps159
      go_wp2
      go_ret
      exact ⟨by rfl, rfl⟩
    | true =>
      go_enter Tryz.func159, Tryz.ntmps159
      go_wp2
      go_ret
      exact ⟨by rfl, rfl⟩
theorem isKind_any (n : Int) (w : World) : Calls Tryz.prog 32 #[.int .i64 n] w fun e w' => e = .returned (.bool (decide (1 ≤ n ∧ n ≤ 11))) ∧ w' = w := by
  by_cases h0 : 1 ≤ n
  · by_cases h1 : n ≤ 11
    · have HE : Hid (decide (1 ≤ n ∧ n ≤ 11) = true) := decide_eq_true ⟨h0, h1⟩
      rw [HE.out]
      go_enter Tryz.func32, Tryz.ntmps32
      go_wp2
      go_ret
      exact ⟨by rfl, rfl⟩
    · have HE : Hid (decide (1 ≤ n ∧ n ≤ 11) = false) := decide_eq_false (fun e => h1 e.2)
      rw [HE.out]
      go_enter Tryz.func32, Tryz.ntmps32
      go_wp2
      go_ret
      exact ⟨by rfl, rfl⟩
  · have HE : Hid (decide (1 ≤ n ∧ n ≤ 11) = false) := decide_eq_false (fun e => h0 e.1)
    rw [HE.out]
    go_enter Tryz.func32, Tryz.ntmps32
    go_wp2
    go_ret
    exact ⟨by rfl, rfl⟩
theorem isBelow_any (n c : Int) (w : World) : Calls Tryz.prog 80 #[.int .i64 n, .int .i64 c] w fun e w' => e = .returned (.bool (decide (0 ≤ n ∧ n < c))) ∧ w' = w := by
  by_cases h0 : 0 ≤ n
  · by_cases h1 : n < c
    · have HE : Hid (decide (0 ≤ n ∧ n < c) = true) := decide_eq_true ⟨h0, h1⟩
      rw [HE.out]
      go_enter Tryz.func80, Tryz.ntmps80
      go_wp2
      go_ret
      exact ⟨by rfl, rfl⟩
    · have HE : Hid (decide (0 ≤ n ∧ n < c) = false) := decide_eq_false (fun e => h1 e.2)
      rw [HE.out]
      go_enter Tryz.func80, Tryz.ntmps80
      go_wp2
      go_ret
      exact ⟨by rfl, rfl⟩
  · have HE : Hid (decide (0 ≤ n ∧ n < c) = false) := decide_eq_false (fun e => h0 e.1)
    rw [HE.out]
    go_enter Tryz.func80, Tryz.ntmps80
    go_wp2
    go_ret
    exact ⟨by rfl, rfl⟩
/-- The table of uses. -/
def Us (w : World) : Prop := ∀ k, k < 12 → w.cell? ⟨1, k, none⟩ = some (.int .u32 (usesT k : Nat))
theorem Us.since {w w' : World} (h : Us w) (hs : w.Since w.heap.size w') : Us w' := fun k hk => by
  rw [hs.cell (a := ⟨1, k, none⟩) (World.block_lt_of_cell? _ _ (h k hk))]; exact h k hk
theorem usesT_lt (k : Nat) : usesT k < 4294967296 := by
  unfold usesT
  split <;> decide
theorem isUsed_any (k i : Nat) (w : World) (h : Us w) (hk : k < 12) (hi : i < 16) : Calls Tryz.prog 81 #[.int .i64 (k : Nat), .int .i64 (i : Nat)] w fun e w' => e = .returned (.bool (usedB k i)) ∧ w' = w := by
  have hc := h k hk
  have hl := usesT_lt k
  have hd : usesT k / 2 ^ i < 4294967296 := Nat.lt_of_le_of_lt (Nat.div_le_self _ _) hl
  have hand : bits .and .u32 ((usesT k : Int) / (2 : Int) ^ i) 1 = ((usesT k / 2 ^ i % 2 : Nat) : Int) := by
    have := u32_and_nat (usesT k / 2 ^ i) 1 hd (by decide)
    rw [Nat.and_one_is_mod] at this
    simpa using this
  have z0 : (0 : Int) ≤ (k : Int) := by omega
  have z1 : (k : Int) < 12 := by omega
  have z2 : (0 : Int) ≤ (i : Int) := by omega
  have z3 : (i : Int) < 32 := by omega
  unfold usedB
  clear h hd hl
  generalize usesT k / 2 ^ i % 2 = b at *
  generalize usesT k = T at *
  by_cases hb : b = 1
  · subst hb
    have HE : Hid ((1 == 1) = true) := rfl
    go_enter Tryz.func81, Tryz.ntmps81
    go_wp2
    go_ret
    exact ⟨rfl, rfl⟩
  · have hbz : ((b : Int) == 1) = false := by simp; omega
    have HE : Hid ((b == 1) = false) := by show (b == 1) = false; simp [hb]
    rw [HE.out]
    go_enter Tryz.func81, Tryz.ntmps81
    go_wp2
    go_ret
    exact ⟨rfl, rfl⟩
end Go.Proofs.YtonpmabdjngdcaaGreatDoor

/- Package message: a message in memory; the closures of numbers. -/
namespace Go.Proofs.YtonpmabdjngdcaaGreatDoor
open Go.RowKit
set_option maxRecDepth 100000

def strL (l : List Nat) : ByteArray := strOfNums (l.map fun v : Nat => (v : Int))
def isU (i : Nat) : Bool := i == 4 || i == 5 || i == 6 || i == 7 || i == 9 || i == 12 || i == 15 || i == 16 || i == 17
/-- The cells of a message; va, vc: where its Value lies, and its room. -/
def mgCell (m : Mg) (va : Option Addr) (vc : Nat) (i : Nat) : Value :=
  if i = 10 then .slice va (m.s 10).length vc else if i = 13 ∨ i = 14 then .string (strL (m.s i)) else if isU i = true then .int .u64 (m.n i) else .int .i64 (m.n i)
/-- A message in memory. -/
structure MsgIs (w : World) (mb : Nat) (m : Mg) (va : Option Addr) (vc : Nat) : Prop where
  row : w.rowIs mb 37 22 (mgCell m va vc)
  val : Byt w va (m.s 10).length (fun j => (m.s 10).getD j 0)
  nil : va = none → (m.s 10).length = 0 ∧ vc = 0
  lt : ∀ q, va = some q → 0 < (m.s 10).length → q.block < w.heap.size
  ne : ∀ q, va = some q → 0 < (m.s 10).length → q.block ≠ mb
  len : ∀ c, (m.s c).length ≤ 140737488351232
  byte : ∀ c, ∀ v ∈ m.s c, v < 256
theorem MsgIs.keep {w w' : World} {mb : Nat} {m : Mg} {va : Option Addr} {vc : Nat} (h : MsgIs w mb m va vc) (h1 : w'.heap[mb]? = w.heap[mb]?) (h2 : ∀ q, va = some q → 0 < (m.s 10).length → w'.heap[q.block]? = w.heap[q.block]?) (hz : w.heap.size ≤ w'.heap.size) : MsgIs w' mb m va vc :=
  ⟨h.row.of_block h1, fun j hj => by
    obtain ⟨b, o, e, hc⟩ := h.val j hj
    have hq : w'.heap[b]? = w.heap[b]? := h2 _ e (by omega)
    exact ⟨b, o, e, by rw [World.cell?_of_block (a := ⟨b, o + j, none⟩) hq]; exact hc⟩, h.nil, fun q e h0 => Nat.lt_of_lt_of_le (h.lt q e h0) hz, h.ne, h.len, h.byte⟩
theorem MsgIs.since {w w' : World} {mb : Nat} {m : Mg} {va : Option Addr} {vc : Nat} (h : MsgIs w mb m va vc) (hs : w.Since w.heap.size w') : MsgIs w' mb m va vc :=
  h.keep (hs.block _ h.row.lt) (fun q e h0 => hs.block _ (h.lt q e h0)) hs.size
theorem MsgIs.cell {w : World} {mb : Nat} {m : Mg} {va : Option Addr} {vc : Nat} (h : MsgIs w mb m va vc) {i : Nat} (hi : i < 22) : w.cell? ⟨mb, i, none⟩ = some (mgCell m va vc i) := h.row.cell hi
theorem mgCell_u {m : Mg} {va : Option Addr} {vc i : Nat} (h : isU i = true) : mgCell m va vc i = .int .u64 (m.n i) := by
  have h10 : i ≠ 10 := fun e => by rw [e] at h; exact absurd h (by decide)
  have h13 : ¬ (i = 13 ∨ i = 14) := fun e => by rcases e with e | e <;> (rw [e] at h; exact absurd h (by decide))
  unfold mgCell
  rw [if_neg h10, if_neg h13, if_pos h]
theorem mgCell_i {m : Mg} {va : Option Addr} {vc i : Nat} (h : isU i = false) (h10 : i ≠ 10) (h13 : i ≠ 13) (h14 : i ≠ 14) : mgCell m va vc i = .int .i64 (m.n i) := by
  unfold mgCell
  rw [if_neg h10, if_neg (by omega), if_neg (by rw [h]; decide)]
theorem drewN_since (w : World) (k : Nat) : w.Since w.heap.size (w.drewN k) := since_drewN' (World.Since.refl _ _) k
set_option maxHeartbeats 1000000 in
theorem varMayU (ka : FuncId) (c ab qb mb : Nat) (hat : IsAt ka c) (most n : Int) (used : Bool) (w : World) (h1 : w.cell? ⟨ab, 0, none⟩ = some (.func (.func ka) #[] #[])) (h2 : w.cell? ⟨qb, 0, none⟩ = some (.int .u64 most)) (h3 : w.cell? ⟨mb, c, none⟩ = some (.int .u64 n)) :
    Calls Tryz.prog 113 #[.pointer (some ⟨mb, 0, none⟩), .bool used, .pointer (some ⟨ab, 0, none⟩), .pointer (some ⟨qb, 0, none⟩)] w fun e w' => e = .returned (.bool (decide (0 ≤ n ∧ n ≤ (if used then most else 0)))) ∧ ∃ k, w' = w.drewN k := by
  have hent := hat.ent
  unfold Ent at hent
  have HC := hide hat.call
  have HW : Hid (∀ w, Calls Tryz.prog 114 #[.int .u64 n, .int .u64 most, .bool used] w fun e w' => e = .returned (.bool (decide (0 ≤ n ∧ n ≤ (if used then most else 0)))) ∧ w' = w) := fun w => withinU n most used w
  generalize decide (0 ≤ n ∧ n ≤ (if used then most else 0)) = R at *
  clear hat
  go_enter Tryz.func113, Tryz.ntmps113
  go_wp2_with fail
  go_quiet (first | exact Calls.quiet_of_same (HC.out _ _) | exact Calls.quiet_of_same (HW.out _))
  go_wp2_with fail
  go_ret
  exact ⟨rfl, _, rfl⟩
set_option maxHeartbeats 1000000 in
theorem varMayI (ka : FuncId) (c ab qb mb : Nat) (hat : IsAt ka c) (most n : Int) (used : Bool) (w : World) (h1 : w.cell? ⟨ab, 0, none⟩ = some (.func (.func ka) #[] #[])) (h2 : w.cell? ⟨qb, 0, none⟩ = some (.int .i64 most)) (h3 : w.cell? ⟨mb, c, none⟩ = some (.int .i64 n)) :
    Calls Tryz.prog 122 #[.pointer (some ⟨mb, 0, none⟩), .bool used, .pointer (some ⟨ab, 0, none⟩), .pointer (some ⟨qb, 0, none⟩)] w fun e w' => e = .returned (.bool (decide (0 ≤ n ∧ n ≤ (if used then most else 0)))) ∧ ∃ k, w' = w.drewN k := by
  have hent := hat.ent
  unfold Ent at hent
  have HC := hide hat.call
  have HW : Hid (∀ w, Calls Tryz.prog 123 #[.int .i64 n, .int .i64 most, .bool used] w fun e w' => e = .returned (.bool (decide (0 ≤ n ∧ n ≤ (if used then most else 0)))) ∧ w' = w) := fun w => withinI n most used w
  generalize decide (0 ≤ n ∧ n ≤ (if used then most else 0)) = R at *
  clear hat
  go_enter Tryz.func122, Tryz.ntmps122
  go_wp2_with fail
  go_quiet (first | exact Calls.quiet_of_same (HC.out _ _) | exact Calls.quiet_of_same (HW.out _))
  go_wp2_with fail
  go_ret
  exact ⟨rfl, _, rfl⟩
set_option maxHeartbeats 1000000 in
theorem varMayE (ka : FuncId) (c ab qb mb : Nat) (hat : IsAt ka c) (most n : Int) (used : Bool) (w : World) (h1 : w.cell? ⟨ab, 0, none⟩ = some (.func (.func ka) #[] #[])) (h2 : w.cell? ⟨qb, 0, none⟩ = some (.int .i64 most)) (h3 : w.cell? ⟨mb, c, none⟩ = some (.int .i64 n)) :
    Calls Tryz.prog 158 #[.pointer (some ⟨mb, 0, none⟩), .bool used, .pointer (some ⟨ab, 0, none⟩), .pointer (some ⟨qb, 0, none⟩)] w fun e w' => e = .returned (.bool (decide (0 ≤ n ∧ n ≤ (if used then most else 0)))) ∧ ∃ k, w' = w.drewN k := by
  have hent := hat.ent
  unfold Ent at hent
  have HC := hide hat.call
  have HW : Hid (∀ w, Calls Tryz.prog 159 #[.int .i64 n, .int .i64 most, .bool used] w fun e w' => e = .returned (.bool (decide (0 ≤ n ∧ n ≤ (if used then most else 0)))) ∧ w' = w) := fun w => withinE n most used w
  generalize decide (0 ≤ n ∧ n ≤ (if used then most else 0)) = R at *
  clear hat
  go_enter Tryz.func158, Tryz.ntmps158
  go_wp2_with fail
  go_quiet (first | exact Calls.quiet_of_same (HC.out _ _) | exact Calls.quiet_of_same (HW.out _))
  go_wp2_with fail
  go_ret
  exact ⟨rfl, _, rfl⟩
end Go.Proofs.YtonpmabdjngdcaaGreatDoor

/- Strings as bytes: what []byte(s) makes. -/
namespace Go.Proofs.YtonpmabdjngdcaaGreatDoor
open Go.RowKit
set_option maxRecDepth 100000

/-- The bytes of a string. -/
def bx (s : ByteArray) (j : Nat) : Nat := (s.data.toList.getD j 0).toNat
theorem bx_lt (s : ByteArray) (j : Nat) : bx s j < 256 := (s.data.toList.getD j 0).toNat_lt
/-- Block g is what []byte(s) made: the bytes, then zeros, c in all. -/
structure FlB (w : World) (g c : Nat) (s : ByteArray) : Prop where
  blk : ∃ cs, w.heap[g]? = some (.cells cs 5 (c, c + 1)) ∧ cs.size = c ∧ (∀ j, j < s.size → cs[j]? = some (.int .u8 (bx s j : Nat))) ∧ ∀ j, j < c → ∃ q : Nat, cs[j]? = some (.int .u8 (q : Nat))
  le : s.size ≤ c
theorem FlB.on {w w' : World} {g c : Nat} {s : ByteArray} (h : FlB w g c s) (e : w'.heap[g]? = w.heap[g]?) : FlB w' g c s := by
  obtain ⟨cs, h1, h2⟩ := h.blk
  exact ⟨⟨cs, e.trans h1, h2⟩, h.le⟩
theorem FlB.lt {w : World} {g c : Nat} {s : ByteArray} (h : FlB w g c s) : g < w.heap.size := by
  obtain ⟨cs, h1, h2⟩ := h.blk
  exact (Array.getElem?_eq_some_iff.1 h1).1
theorem FlB.cell {w : World} {g c : Nat} {s : ByteArray} (h : FlB w g c s) (j : Nat) (hj : j < s.size) : w.cell? ⟨g, j, none⟩ = some (.int .u8 (bx s j : Nat)) := by
  obtain ⟨cs, h1, h2, h3, _⟩ := h.blk
  simp [World.cell?, h1, h3 j hj]
theorem FlB.byt {w : World} {g c : Nat} {s : ByteArray} (h : FlB w g c s) : Byt w (some ⟨g, 0, none⟩) s.size (bx s) := fun j hj => ⟨g, 0, rfl, by rw [Nat.zero_add]; exact h.cell j hj⟩
theorem flb_new (w : World) (s : ByteArray) : FlB (Lib.bytesWorld w 5 s) w.heap.size (grownCap w s.size 0 5) s := by
  have hc := grownCap_ge w s.size 0 5
  have hds : s.data.size = s.size := rfl
  have hsz : (Lib.bytesCells w 5 s).size = grownCap w s.size 0 5 := by
    unfold Lib.bytesCells
    rw [Array.size_append, Array.size_map, Array.size_replicate]
    omega
  refine ⟨⟨Lib.bytesCells w 5 s, ?_, hsz, fun j hj => ?_, fun j hj => ?_⟩, hc⟩
  · rw [Lib.bytesWorld_at_new, hsz]
  · unfold Lib.bytesCells bx
    rw [Array.getElem?_append_left (by rw [Array.size_map]; omega), Array.getElem?_map, Array.getElem?_eq_getElem (by omega)]
    simp only [List.getD, Array.getElem?_toList, Option.map_some]
    rw [Array.getElem?_eq_getElem (by omega)]
    rfl
  · unfold Lib.bytesCells
    by_cases h : j < s.data.size
    · rw [Array.getElem?_append_left (by rw [Array.size_map]; omega), Array.getElem?_map, Array.getElem?_eq_getElem h]
      exact ⟨s.data[j].toNat, rfl⟩
    · rw [Array.getElem?_append_right (by rw [Array.size_map]; omega), Array.getElem?_replicate, Array.size_map, if_pos (by omega)]
      exact ⟨0, rfl⟩
theorem since_bytes (w : World) (s : ByteArray) : w.Since w.heap.size (Lib.bytesWorld w 5 s) :=
  ⟨rfl, rfl, rfl, by rw [Lib.bytesWorld_size]; omega, fun k hk => Lib.bytesWorld_at_old w _ s k hk⟩
theorem strL_size (l : List Nat) : (strL l).size = l.length := by unfold strL; rw [strOfNums_size]; simp
theorem bx_strL {l : List Nat} (h : ∀ v ∈ l, v < 256) (j : Nat) : bx (strL l) j = l.getD j 0 := by
  unfold bx strL
  rw [strOfNums_data]
  by_cases hj : j < l.length
  · have hv := h l[j] (List.getElem_mem hj)
    have e : (l.map fun v : Nat => (v : Int)).map (fun n => UInt8.ofNat n.toNat) = l.map fun v => UInt8.ofNat v := by
      rw [List.map_map]
      exact List.map_congr_left fun v _ => by simp
    rw [e]
    simp only [List.getD, List.getElem?_map, List.getElem?_eq_getElem hj, Option.map_some, Option.getD_some]
    rw [UInt8.toNat_ofNat']
    omega
  · simp [List.getD, hj]
theorem strOf_strL (n : Nat) (x : Nat → Nat) : strOf n x = strL ((List.range n).map x) := by
  unfold strOf strL
  rw [List.map_map]
  rfl
theorem strL_inj {a b : List Nat} (ha : ∀ v ∈ a, v < 256) (hb : ∀ v ∈ b, v < 256) (h : strL a = strL b) : a = b := by
  have hl : a.length = b.length := by rw [← strL_size a, ← strL_size b, h]
  refine List.ext_getElem hl (fun j h1 h2 => ?_)
  have := congrArg (fun s => bx s j) h
  simp only [bx_strL ha, bx_strL hb] at this
  simpa [List.getD, h1, h2] using this
/-- The bytes of a string as a list. -/
def listS (s : ByteArray) : List Nat := s.data.toList.map (·.toNat)
theorem listS_len (s : ByteArray) : (listS s).length = s.size := by unfold listS; rw [List.length_map, Array.length_toList]; rfl
theorem listS_byte (s : ByteArray) : ∀ v ∈ listS s, v < 256 := fun v hv => by
  obtain ⟨u, _, rfl⟩ := List.mem_map.1 hv
  exact u.toNat_lt
theorem strL_listS (s : ByteArray) : strL (listS s) = s := by
  unfold strL listS strOfNums
  rw [List.map_map, List.map_map]
  have : (((fun n : Int => UInt8.ofNat n.toNat) ∘ fun v : Nat => (v : Int)) ∘ fun x : UInt8 => x.toNat) = id := by
    funext u
    simp
  rw [this]
  simp
end Go.Proofs.YtonpmabdjngdcaaGreatDoor

/- Writer.Bytes, where the bytes may lie anywhere if there are none. -/
namespace Go.Proofs.YtonpmabdjngdcaaGreatDoor
open Go.RowKit

theorem bytes_l3 (wb B : Nat) (v : Value) (l : List Nat) (a : Option Addr) (m c : Nat) (y : Nat → Nat) (w : World) (h : IsL w wb B v l) (hb : Byt w a m y) (ha : a = none → m = 0 ∧ c = 0) (hmax : l.length + 10 + m ≤ 140737488355328) (hne : 0 < m → ∀ b off, a = some ⟨b, off, none⟩ → b ≠ wb ∧ some b ≠ v.ownBlock) :
    Calls Tryz.prog 128 #[.pointer (some ⟨wb, 0, none⟩), .slice a m c] w fun e w' => e = .returned (.tuple #[]) ∧ ∃ v', IsL w' wb B v' (l ++ (vl 9 m ++ (List.range m).map y)) ∧ Ext wb v v' w w' := by
  go_enter Tryz.func128, Tryz.ntmps128
  go_wp2_with fail
  refine (var_l wb B v l m w h (by omega) (by omega)).mono ?_
  rintro e w1 ⟨rfl, v1, h1, hE1⟩
  have hb1 : Byt w1 a m y := fun j hj => by
    obtain ⟨b, off, e, hc⟩ := hb j hj
    have hn := hne (by omega) b off e
    exact ⟨b, off, e, by rw [World.cell?_of_block (w := w) (hE1.block b (World.block_lt_of_cell? _ _ hc) hn.1 hn.2)]; exact hc⟩
  have hl := vl_len 9 m
  go_wp2_with fail
  refine (raw_l wb B v1 (l ++ vl 9 m) a m c y w1 h1 hb1 ha (by rw [List.length_append]; omega)).mono ?_
  rintro e w2 ⟨rfl, v2, h2, hE2⟩
  go_wp2_with fail
  go_end0
  exact ⟨rfl, v2, by rw [← List.append_assoc]; exact h2, hE1.trans hE2⟩
end Go.Proofs.YtonpmabdjngdcaaGreatDoor

/- Package message: what the closures write. -/
namespace Go.Proofs.YtonpmabdjngdcaaGreatDoor
open Go.RowKit
set_option maxRecDepth 100000

section
variable {w0 w : World} {wb : Nat} {l : List Nat}
theorem Wr.var (h : Wr w0 w wb l) (N : Nat) (hN : N < 18446744073709551616) (hm : l.length ≤ 100000000000) : Calls Tryz.prog 116 #[.pointer (some ⟨wb, 0, none⟩), .int .u64 N] w fun e w' => e = .returned (.tuple #[]) ∧ Wr w0 w' wb (l ++ vl 9 N) := by
  obtain ⟨B, v, hB, hI⟩ := h.2.2
  exact (var_l wb B v l N w hI hN (by omega)).mono fun e w' ⟨he, v', h1, h2⟩ => ⟨he, h.on hB hI h1 h2⟩
theorem Wr.later {w' : World} (h : Wr w0 w wb l) (hs : w.Since w.heap.size w') : Wr w0 w' wb l := by
  obtain ⟨B, v, hB, hI⟩ := h.2.2
  exact ⟨h.1, h.2.1.trans (since_mono hs h.2.1.size), B, v, hB, ⟨row_since hI.cell hs, own_since hI.own hs, hI.ne, Nat.le_trans hI.lo hs.size⟩⟩
/-- Bytes of memory that is newer than the Writer's. -/
theorem Wr.bytes3 (h : Wr w0 w wb l) (a : Option Addr) (m c : Nat) (y : Nat → Nat) (hb : Byt w0 a m y) (ha : a = none → m = 0 ∧ c = 0) (hlt : ∀ q, a = some q → 0 < m → q.block < w0.heap.size) (hm : l.length + m ≤ 100000000000) : Calls Tryz.prog 128 #[.pointer (some ⟨wb, 0, none⟩), .slice a m c] w fun e w' => e = .returned (.tuple #[]) ∧ Wr w0 w' wb (l ++ partL ((List.range m).map y)) := by
  obtain ⟨B, v, hB, hI⟩ := h.2.2
  have h1 := h.1
  refine (bytes_l3 wb B v l a m c y w hI (hb.since h.2.1) ha (by omega) (fun h0 b off e => ?_)).mono fun e w' ⟨he, v', h1, h2⟩ => ⟨he, ?_⟩
  · have hq : b < w0.heap.size := hlt _ e h0
    refine ⟨by omega, fun e2 => ?_⟩
    have := own_block hI.own b e2.symm
    omega
  · have := h.on hB hI h1 h2
    have el : (List.range m).length = m := by simp
    unfold partL
    rw [List.length_map, el]
    exact this
theorem Wr.bytesNew {w' : World} (h : Wr w0 w wb l) (hs : w.Since w.heap.size w') (a : Option Addr) (m c : Nat) (y : Nat → Nat) (hb : Byt w' a m y) (ha : a = none → m = 0 ∧ c = 0) (hge : ∀ b off, a = some ⟨b, off, none⟩ → w.heap.size ≤ b) (hm : l.length + m ≤ 100000000000) :
    Calls Tryz.prog 128 #[.pointer (some ⟨wb, 0, none⟩), .slice a m c] w' fun e w'' => e = .returned (.tuple #[]) ∧ Wr w0 w'' wb (l ++ partL ((List.range m).map y)) := by
  obtain ⟨B, v, hB, hI⟩ := h.2.2
  have h' := h.later hs
  have hI' : IsL w' wb B v l := ⟨row_since hI.cell hs, own_since hI.own hs, hI.ne, Nat.le_trans hI.lo hs.size⟩
  have hwb := hI.cell.lt
  refine (bytes_l wb B v l a m c y w' hI' hb ha (by omega) (fun b off e => ?_)).mono fun e w'' ⟨he, v', h1, h2⟩ => ⟨he, ?_⟩
  · have hq := hge _ _ e
    refine ⟨by omega, fun e2 => ?_⟩
    have := own_lt hI.own b e2.symm
    omega
  · have := h'.on hB hI' h1 h2
    have el : (List.range m).length = m := by simp
    unfold partL
    rw [List.length_map, el, ← List.append_assoc]
    exact this
end
set_option maxHeartbeats 1000000 in
theorem varPutU (ka : FuncId) (c ab mb wb : Nat) (hat : IsAt ka c) (N : Nat) (w0 w : World) (l : List Nat) (hW : Wr w0 w wb l) (h1 : w.cell? ⟨ab, 0, none⟩ = some (.func (.func ka) #[] #[])) (h3 : w.cell? ⟨mb, c, none⟩ = some (.int .u64 (N : Nat))) (hN : N < 18446744073709551616) (hm : l.length ≤ 100000000000) :
    Calls Tryz.prog 115 #[.pointer (some ⟨wb, 0, none⟩), .pointer (some ⟨mb, 0, none⟩), .pointer (some ⟨ab, 0, none⟩)] w fun e w' => e = .returned (.tuple #[]) ∧ Wr w0 w' wb (l ++ vl 9 N) := by
  have hent := hat.ent
  unfold Ent at hent
  have HC := hide hat.call
  have q := hW.var N (by omega) hm
  have hwr : IntKind.u64.wrap (N : Int) = (N : Int) := by rw [IntKind.wrap_u64]; omega
  clear hat hW
  go_enter Tryz.func115, Tryz.ntmps115
  go_wp2_with fail
  refine (HC.out _ _).mono ?_
  rintro e w1 ⟨rfl, e1⟩
  rw [e1]
  clear e1
  go_wp2_with fail
  refine q.mono ?_
  rintro e w2 ⟨rfl, hx⟩
  have HX := hide hx
  clear q hx
  go_wp2_with fail
  go_end0
  exact ⟨rfl, HX.out⟩
set_option maxHeartbeats 1000000 in
theorem varPutI (ka : FuncId) (c ab mb wb : Nat) (hat : IsAt ka c) (N : Nat) (w0 w : World) (l : List Nat) (hW : Wr w0 w wb l) (h1 : w.cell? ⟨ab, 0, none⟩ = some (.func (.func ka) #[] #[])) (h3 : w.cell? ⟨mb, c, none⟩ = some (.int .i64 (N : Nat))) (hN : N < 9223372036854775808) (hm : l.length ≤ 100000000000) :
    Calls Tryz.prog 124 #[.pointer (some ⟨wb, 0, none⟩), .pointer (some ⟨mb, 0, none⟩), .pointer (some ⟨ab, 0, none⟩)] w fun e w' => e = .returned (.tuple #[]) ∧ Wr w0 w' wb (l ++ vl 9 N) := by
  have hent := hat.ent
  unfold Ent at hent
  have HC := hide hat.call
  have q := hW.var N (by omega) hm
  have hwr : IntKind.u64.wrap (N : Int) = (N : Int) := by rw [IntKind.wrap_u64]; omega
  clear hat hW
  go_enter Tryz.func124, Tryz.ntmps124
  go_wp2_with fail
  refine (HC.out _ _).mono ?_
  rintro e w1 ⟨rfl, e1⟩
  rw [e1]
  clear e1
  go_wp2_with fail
  refine q.mono ?_
  rintro e w2 ⟨rfl, hx⟩
  have HX := hide hx
  clear q hx
  go_wp2_with fail
  go_end0
  exact ⟨rfl, HX.out⟩
set_option maxHeartbeats 1000000 in
theorem varPutE (ka : FuncId) (c ab mb wb : Nat) (hat : IsAt ka c) (N : Nat) (w0 w : World) (l : List Nat) (hW : Wr w0 w wb l) (h1 : w.cell? ⟨ab, 0, none⟩ = some (.func (.func ka) #[] #[])) (h3 : w.cell? ⟨mb, c, none⟩ = some (.int .i64 (N : Nat))) (hN : N < 9223372036854775808) (hm : l.length ≤ 100000000000) :
    Calls Tryz.prog 160 #[.pointer (some ⟨wb, 0, none⟩), .pointer (some ⟨mb, 0, none⟩), .pointer (some ⟨ab, 0, none⟩)] w fun e w' => e = .returned (.tuple #[]) ∧ Wr w0 w' wb (l ++ vl 9 N) := by
  have hent := hat.ent
  unfold Ent at hent
  have HC := hide hat.call
  have q := hW.var N (by omega) hm
  have hwr : IntKind.u64.wrap (N : Int) = (N : Int) := by rw [IntKind.wrap_u64]; omega
  clear hat hW
  go_enter Tryz.func160, Tryz.ntmps160
  go_wp2_with fail
  refine (HC.out _ _).mono ?_
  rintro e w1 ⟨rfl, e1⟩
  rw [e1]
  clear e1
  go_wp2_with fail
  refine q.mono ?_
  rintro e w2 ⟨rfl, hx⟩
  have HX := hide hx
  clear q hx
  go_wp2_with fail
  go_end0
  exact ⟨rfl, HX.out⟩
set_option maxHeartbeats 1000000 in
theorem smallMay (ka : FuncId) (c ab qb mb : Nat) (hat : IsAt ka c) (most n : Int) (used : Bool) (w : World) (h1 : w.cell? ⟨ab, 0, none⟩ = some (.func (.func ka) #[] #[])) (h2 : w.cell? ⟨qb, 0, none⟩ = some (.int .i64 most)) (h3 : w.cell? ⟨mb, c, none⟩ = some (.int .i64 n)) :
    Calls Tryz.prog 131 #[.pointer (some ⟨mb, 0, none⟩), .bool used, .pointer (some ⟨ab, 0, none⟩), .pointer (some ⟨qb, 0, none⟩)] w fun e w' => e = .returned (.bool (decide (0 ≤ n ∧ n ≤ (if used then most else 0)))) ∧ ∃ k, w' = w.drewN k := by
  have hent := hat.ent
  unfold Ent at hent
  have HC := hide hat.call
  have HW : Hid (∀ w, Calls Tryz.prog 123 #[.int .i64 n, .int .i64 most, .bool used] w fun e w' => e = .returned (.bool (decide (0 ≤ n ∧ n ≤ (if used then most else 0)))) ∧ w' = w) := fun w => withinI n most used w
  generalize decide (0 ≤ n ∧ n ≤ (if used then most else 0)) = R at *
  clear hat
  go_enter Tryz.func131, Tryz.ntmps131
  go_wp2_with fail
  go_quiet (first | exact Calls.quiet_of_same (HC.out _ _) | exact Calls.quiet_of_same (HW.out _))
  go_wp2_with fail
  go_ret
  exact ⟨rfl, _, rfl⟩
set_option maxHeartbeats 1000000 in
theorem smallPut (ka : FuncId) (c ab mb wb : Nat) (hat : IsAt ka c) (N : Nat) (w0 w : World) (l : List Nat) (hW : Wr w0 w wb l) (ht : Tb w0) (h1 : w.cell? ⟨ab, 0, none⟩ = some (.func (.func ka) #[] #[])) (h3 : w.cell? ⟨mb, c, none⟩ = some (.int .i64 (N : Nat))) (hN : N < 256) (hm : l.length ≤ 100000000000) :
    Calls Tryz.prog 132 #[.pointer (some ⟨wb, 0, none⟩), .pointer (some ⟨mb, 0, none⟩), .pointer (some ⟨ab, 0, none⟩)] w fun e w' => e = .returned (.tuple #[]) ∧ Wr w0 w' wb (l ++ fl 1 N) := by
  have hent := hat.ent
  unfold Ent at hent
  have HC := hide hat.call
  have q := hW.u8 ht N hN hm
  have hwr : IntKind.u8.wrap (N : Int) = (N : Int) := by rw [IntKind.wrap_u8]; omega
  clear hat hW
  go_enter Tryz.func132, Tryz.ntmps132
  go_wp2_with fail
  refine (HC.out _ _).mono ?_
  rintro e w1 ⟨rfl, e1⟩
  rw [e1]
  clear e1
  go_wp2_with fail
  refine q.mono ?_
  rintro e w2 ⟨rfl, hx⟩
  have HX := hide hx
  clear q hx
  go_wp2_with fail
  go_end0
  exact ⟨rfl, HX.out⟩
set_option maxHeartbeats 1000000 in
theorem nameMay (ka : FuncId) (c ab mb : Nat) (hat : IsAt ka c) (s : List Nat) (used : Bool) (w : World) (h1 : w.cell? ⟨ab, 0, none⟩ = some (.func (.func ka) #[] #[])) (h3 : w.cell? ⟨mb, c, none⟩ = some (.string (strL s))) :
    Calls Tryz.prog 134 #[.pointer (some ⟨mb, 0, none⟩), .bool used, .pointer (some ⟨ab, 0, none⟩)] w fun e w' => e = .returned (.bool (decide (s.length ≤ (if used then 64 else 0)))) ∧ ∃ k, w' = w.drewN k := by
  have hent := hat.ent
  unfold Ent at hent
  have HC := hide hat.call
  have hsz : (strL s).size = s.length := strL_size s
  have HW : Hid (∀ w, Calls Tryz.prog 123 #[.int .i64 (((strL s).size : Nat) : Int), .int .i64 64, .bool used] w fun e w' => e = .returned (.bool (decide (s.length ≤ (if used then 64 else 0)))) ∧ w' = w) := fun w => by
    have := withinI (((strL s).size : Nat) : Int) 64 used w
    rw [hsz] at this
    have e : decide (0 ≤ ((s.length : Nat) : Int) ∧ ((s.length : Nat) : Int) ≤ (if used then 64 else 0)) = decide (s.length ≤ (if used then 64 else 0)) := by
      cases used <;> simp <;> omega
    rw [e] at this
    rw [hsz]
    exact this
  generalize decide (s.length ≤ (if used then 64 else 0)) = R at *
  clear hat hsz
  generalize strL s = S at *
  go_enter Tryz.func134, Tryz.ntmps134
  go_wp2_with fail
  refine (HC.out _ _).mono ?_
  rintro e w1 ⟨rfl, e1⟩
  rw [e1]
  clear e1
  go_wp2_with fail
  refine (HW.out _).mono ?_
  rintro e w2 ⟨rfl, e1⟩
  rw [e1]
  clear e1
  go_wp2_with fail
  go_ret
  exact ⟨rfl, 0, rfl⟩
set_option maxHeartbeats 1000000 in
theorem namePut (ka : FuncId) (c ab mb wb : Nat) (hat : IsAt ka c) (s : List Nat) (hs : ∀ v ∈ s, v < 256) (w0 w : World) (l : List Nat) (hW : Wr w0 w wb l) (h1 : w.cell? ⟨ab, 0, none⟩ = some (.func (.func ka) #[] #[])) (h3 : w.cell? ⟨mb, c, none⟩ = some (.string (strL s))) (hm : l.length + s.length ≤ 100000000000) :
    Calls Tryz.prog 135 #[.pointer (some ⟨wb, 0, none⟩), .pointer (some ⟨mb, 0, none⟩), .pointer (some ⟨ab, 0, none⟩)] w fun e w' => e = .returned (.tuple #[]) ∧ Wr w0 w' wb (l ++ partL s) := by
  have hent := hat.ent
  unfold Ent at hent
  have HC := hide hat.call
  have hsz : (strL s).size = s.length := strL_size s
  have hcv := Lib.run_convert_string_bytes (P := Tryz.prog) w 9 32 5 (strL s) Tryz.underlying9 Tryz.underlying32 Tryz.underlying5
  have q := hW.bytesNew (since_bytes w (strL s)) (some ⟨w.heap.size, 0, none⟩) (strL s).size (grownCap w (strL s).size 0 5) (bx (strL s)) (flb_new w (strL s)).byt (fun e => by simp at e) (fun b off e => by
    have e := Option.some.inj e
    have : b = w.heap.size := congrArg Addr.block e.symm
    omega) (by rw [hsz]; exact hm)
  have hl : (List.range (strL s).size).map (bx (strL s)) = s := by
    rw [hsz]
    have e : bx (strL s) = fun j => s.getD j 0 := funext fun j => bx_strL hs j
    rw [e, range_getD]
  rw [hl] at q
  generalize hS : strL s = S at *
  generalize Lib.bytesWorld w 5 S = W1 at *
  clear hat hsz hl hS hW
  go_enter Tryz.func135, Tryz.ntmps135
  go_wp2_with fail
  refine (HC.out _ _).mono ?_
  rintro e w1 ⟨rfl, e1⟩
  rw [e1]
  clear e1
  go_wp2_with fail
  refine q.mono ?_
  rintro e w2 ⟨rfl, hx⟩
  have HX := hide hx
  clear q hx hcv
  go_wp2_with fail
  go_end0
  exact ⟨rfl, HX.out⟩
set_option maxHeartbeats 1000000 in
theorem valueMay (mb : Nat) (va : Option Addr) (n vc : Nat) (used : Bool) (w : World) (h3 : w.cell? ⟨mb, 10, none⟩ = some (.slice va n vc)) :
    Calls Tryz.prog 126 #[.pointer (some ⟨mb, 0, none⟩), .bool used] w fun e w' => e = .returned (.bool (decide (n ≤ (if used then 16384 else 0)))) ∧ ∃ k, w' = w.drewN k := by
  have HW : Hid (∀ w, Calls Tryz.prog 123 #[.int .i64 (n : Nat), .int .i64 16384, .bool used] w fun e w' => e = .returned (.bool (decide (n ≤ (if used then 16384 else 0)))) ∧ w' = w) := fun w => by
    have := withinI ((n : Nat) : Int) 16384 used w
    have e : decide (0 ≤ ((n : Nat) : Int) ∧ ((n : Nat) : Int) ≤ (if used then 16384 else 0)) = decide (n ≤ (if used then 16384 else 0)) := by
      cases used <;> simp <;> omega
    rw [e] at this
    exact this
  generalize decide (n ≤ (if used then 16384 else 0)) = R at *
  go_enter Tryz.func126, Tryz.ntmps126
  go_wp2_with fail
  refine (HW.out _).mono ?_
  rintro e w2 ⟨rfl, e1⟩
  rw [e1]
  clear e1
  go_wp2_with fail
  go_ret
  exact ⟨rfl, 0, rfl⟩
set_option maxHeartbeats 1000000 in
theorem valuePut (mb wb : Nat) (m : Mg) (va : Option Addr) (vc : Nat) (w0 w : World) (l : List Nat) (hW : Wr w0 w wb l) (hM : MsgIs w0 mb m va vc) (hm : l.length + (m.s 10).length ≤ 100000000000) :
    Calls Tryz.prog 127 #[.pointer (some ⟨wb, 0, none⟩), .pointer (some ⟨mb, 0, none⟩)] w fun e w' => e = .returned (.tuple #[]) ∧ Wr w0 w' wb (l ++ partL (m.s 10)) := by
  have h3 : w.cell? ⟨mb, 10, none⟩ = some (.slice va (m.s 10).length vc) := (hM.since hW.2.1).cell (i := 10) (by decide)
  have q := hW.bytes3 va (m.s 10).length vc _ hM.val hM.nil hM.lt hm
  rw [range_getD] at q
  clear hW hM
  generalize partL (m.s 10) = L at *
  generalize (m.s 10).length = n at *
  go_enter Tryz.func127, Tryz.ntmps127
  go_wp2_with fail
  refine q.mono ?_
  rintro e w2 ⟨rfl, hx⟩
  have HX := hide hx
  clear q hx
  go_wp2_with fail
  go_end0
  exact ⟨rfl, HX.out⟩
end Go.Proofs.YtonpmabdjngdcaaGreatDoor
