/- What a script of the code statements is in memory: two lists of bytes, a list of calls. -/
import Derived.Test.YtbmdnlomhnodeabDoorFrame
import Derived.Test.YtbmdnlomhnodeabDoorFixed
namespace Go.Proofs.YtbmdnlomhnodeabDoor
open Go.ChangeShapes Go.WideShapes Go.ChangeAt Go.RowKit Go.Deep
set_option maxRecDepth 100000

theorem cells38 : Tryd.prog.cellsOf 23 = 2 := by kernel_rfl
theorem cells39 : Tryd.prog.cellsOf 24 = 1 := by kernel_rfl
theorem cells41 : Tryd.prog.cellsOf 26 = 3 := by kernel_rfl
theorem cells44 : Tryd.prog.cellsOf 31 = 1 := by kernel_rfl
theorem cells52 : Tryd.prog.cellsOf 33 = 5 := by kernel_rfl
theorem bytes52 : Tryd.prog.bytesOf 33 = 56 := by kernel_rfl

theorem gWid : Tryd.prog.globalNamed "tally/code.widths" = some 0 := by kernel_rfl
theorem gWidType : (Tryd.prog.globals[0]?).map (·.type) = some 101 := by kernel_rfl
theorem cells93 : Tryd.prog.cellsOf 101 = 3 := by kernel_rfl
/-- The table of widths, where the row lists it. -/
theorem wid_table {W : World} (h : laidMetH Tryd.prog [("tally/code.widths", Rows.laid_tally_code_widths)] W) : Wid W := by
  have ht : Lib.TabIs Tryd.prog W "tally/code.widths" .i64 [1, 4, 8] := Lib.tabIs_of_head (rest := []) gWid gWidType Tryd.underlying101 Tryd.underlying3 cells3 cells93 h
  exact ⟨ht.cell gWid 0 (by decide), ht.cell gWid 1 (by decide), ht.cell gWid 2 (by decide)⟩

/-- One call of a script, in memory. -/
structure OpIs (W : World) (ob o : Nat) (K WH M : Int) (N : Nat) (ba : Option Addr) (bl bc : Nat) (zb : Nat → Nat) : Prop where
  c0 : W.cell? ⟨ob, o, none⟩ = some (.int .i64 K)
  c1 : W.cell? ⟨ob, o + 1, none⟩ = some (.int .i64 WH)
  c2 : W.cell? ⟨ob, o + 2, none⟩ = some (.int .i64 M)
  c3 : W.cell? ⟨ob, o + 3, none⟩ = some (.int .u64 N)
  c4 : W.cell? ⟨ob, o + 4, none⟩ = some (.slice ba bl bc)
  k1 : -9223372036854775808 ≤ K ∧ K ≤ 9223372036854775807
  w1 : -9223372036854775808 ≤ WH ∧ WH ≤ 9223372036854775807
  m1 : -9223372036854775808 ≤ M ∧ M ≤ 9223372036854775807
  n1 : N < 18446744073709551616
  bl1 : bl ≤ bc
  bc1 : bc ≤ 140737488351232
  zb1 : ∀ j, zb j < 256
  byt : Byt W ba bc zb

theorem cells5_of {w : World} {a : Addr} {cs : List Value} (h : w.cells? 0 a 5 = some cs) : ∃ v0 v1 v2 v3 v4, cs = [v0, v1, v2, v3, v4] ∧ w.cell? (a.add 0) = some v0 ∧ w.cell? (a.add 1) = some v1 ∧ w.cell? (a.add 2) = some v2 ∧ w.cell? (a.add 3) = some v3 ∧ w.cell? (a.add 4) = some v4 := by
  obtain ⟨_, hl, hc⟩ := World.cells?_some h
  match cs, hl with
  | [v0, v1, v2, v3, v4], _ => exact ⟨v0, v1, v2, v3, v4, rfl, hc 0 (by decide), hc 1 (by decide), hc 2 (by decide), hc 3 (by decide), hc 4 (by decide)⟩

set_option maxHeartbeats 800000 in
/-- ONE CALL, READ. -/
theorem open_op {H : Type} {enc : TypeId × Value → H} {W : World} {fuel ob o : Nat} {cs : List Value} {y : DataW H × List MemPlace} (hc : W.cells? 0 ⟨ob, o, none⟩ 5 = some cs) (h : DataW.trod enc Tryd.prog W 0 (fun _ => true) true fuel 33 cs = some y) (hf : Fits 33 y.1) :
    ∃ (K WH M : Int) (N : Nat) (ba : Option Addr) (bl bc : Nat) (zb : Nat → Nat), OpIs W ob o K WH M N ba bl bc zb := by
  obtain ⟨v0, v1, v2, v3, v4, rfl, c0, c1, c2, c3, c4⟩ := cells5_of hc
  rw [add_at] at c0 c1 c2 c3 c4
  obtain ⟨xs, m, _, hx, _, hlen, hfs⟩ := DataW.trod_struct Tryd.underlying33 h
  obtain ⟨y0, y1, y2, y3, y4, rfl⟩ : ∃ y0 y1 y2 y3 y4, xs = [y0, y1, y2, y3, y4] := by
    match xs, hlen with
    | [a, b, c, d, e], _ => exact ⟨a, b, c, d, e, rfl⟩
  have f0 := hfs 0 _ rfl
  have f1 := hfs 1 _ rfl
  have f2 := hfs 2 _ rfl
  have f3 := hfs 3 _ rfl
  have f4 := hfs 4 _ rfl
  simp [cells3] at f0
  simp [cells3] at f1
  simp [cells3] at f2
  simp [cells44] at f3
  simp [cells27] at f4
  obtain ⟨n0, e0, _, w0⟩ := DataW.trod_int Tryd.underlying3 f0
  obtain ⟨n1, e1, _, w1⟩ := DataW.trod_int Tryd.underlying3 f1
  obtain ⟨n2, e2, _, w2⟩ := DataW.trod_int Tryd.underlying3 f2
  obtain ⟨n3, e3, _, w3⟩ := DataW.trod_int Tryd.underlying31 f3
  obtain rfl : v0 = .int .i64 n0 := by simpa using e0
  obtain rfl : v1 = .int .i64 n1 := by simpa using e1
  obtain rfl : v2 = .int .i64 n2 := by simpa using e2
  obtain rfl : v3 = .int .u64 n3 := by simpa using e3
  have b3 := bounds_u64 w3
  obtain ⟨N, rfl⟩ : ∃ N : Nat, n3 = N := ⟨n3.toNat, by omega⟩
  have hfit : Fits 22 y4.1 := fun n hn => hf n (by
    rw [hx]
    simp only [DataW.weights, Tryd.underlying33]
    exact DataW.weights_mem_each (j := 4) rfl rfl n hn)
  obtain ⟨a, len, cap, z, rfl, hl, hcap, hz, hb⟩ := open_bytes f4 hfit
  exact ⟨n0, n1, n2, N, a, len, cap, z, c0, c1, c2, c3, c4, bounds_i64 w0, bounds_i64 w1, bounds_i64 w2, by omega, hl, hcap, hz, hb⟩

/-- A SCRIPT, READ. -/
structure ScriptIs (W : World) (a0 : Option Addr) (len0 cap0 : Nat) (x0 : Nat → Nat) (a1 : Option Addr) (len1 cap1 : Nat) (x1 : Nat → Nat) (oa : Option Addr) (ob oo olen ocap : Nat) : Prop where
  l0 : len0 ≤ cap0
  m0 : cap0 ≤ 140737488351232
  z0 : ∀ j, x0 j < 256
  b0 : Byt W a0 cap0 x0
  l1 : len1 ≤ cap1
  m1 : cap1 ≤ 140737488351232
  z1 : ∀ j, x1 j < 256
  b1 : Byt W a1 cap1 x1
  olen1 : olen ≤ 140737488351232
  oa1 : 0 < olen → oa = some ⟨ob, oo, none⟩
  op : ∀ i, i < olen → ∃ (K WH M : Int) (N : Nat) (ba : Option Addr) (bl bc : Nat) (zb : Nat → Nat), OpIs W ob (oo + i * 5) K WH M N ba bl bc zb

set_option maxHeartbeats 800000 in
theorem open_script {H : Type} {enc : TypeId × Value → H} {W : World} {base : Nat} {v : Value} {d : DataW H} {p : List MemPlace} (hv : Value.okWide Tryd.prog W .any base 26 v) (h : DataW.Trod enc Tryd.prog W 0 (fun _ => true) true 26 v d p) (hf : Fits 26 d) :
    ∃ a0 len0 cap0 x0 a1 len1 cap1 x1 oa ob oo olen ocap, v = .agg #[.slice a0 len0 cap0, .slice a1 len1 cap1, .slice oa olen ocap] ∧ ScriptIs W a0 len0 cap0 x0 a1 len1 cap1 x1 oa ob oo olen ocap := by
  obtain ⟨cs, rfl, hcsz⟩ := okWide_struct Tryd.underlying26 hv
  rw [cells41] at hcsz
  obtain ⟨u0, u1, u2, rfl⟩ : ∃ u0 u1 u2, cs = #[u0, u1, u2] := by
    rcases cs with ⟨l⟩
    match l, hcsz with
    | [a, b, c], _ => exact ⟨a, b, c, rfl⟩
  obtain ⟨fuel, hf0⟩ := h
  obtain ⟨xs, m, _, hx, _, hlen, hfs⟩ := DataW.trod_struct Tryd.underlying26 hf0
  obtain ⟨y0, y1, rfl⟩ : ∃ y0 y1, xs = [y0, y1] := by
    match xs, hlen with
    | [a, b], _ => exact ⟨a, b, rfl⟩
  have f0 := hfs 0 _ rfl
  have f1 := hfs 1 _ rfl
  simp [Value.cells, cells38] at f0
  simp [Value.cells, cells39] at f1
  simp only [Prod.mk.injEq] at hx
  obtain ⟨hd, _⟩ := hx
  have hfit0 : Fits 23 y0.1 := fun n hn => hf n (by
    rw [hd]
    simp only [DataW.weights, Tryd.underlying26]
    exact DataW.weights_mem_each (j := 0) rfl rfl n hn)
  have hfit1 : Fits 24 y1.1 := fun n hn => hf n (by
    rw [hd]
    simp only [DataW.weights, Tryd.underlying26]
    exact DataW.weights_mem_each (j := 1) rfl rfl n hn)
  -- the two lists of bytes
  obtain ⟨ys, m2, _, hy, _, hylen, hys⟩ := DataW.trod_array Tryd.underlying23 f0
  obtain ⟨q0, q1, rfl⟩ : ∃ q0 q1, ys = [q0, q1] := by
    match ys, hylen with
    | [a, b], _ => exact ⟨a, b, rfl⟩
  have g0 := hys 0 (by decide)
  have g1 := hys 1 (by decide)
  simp [cells27] at g0
  simp [cells27] at g1
  have hq0 : Fits 22 q0.1 := fun n hn => hfit0 n (by
    rw [hy]
    simp only [DataW.weights, Tryd.underlying23]
    exact weightsAll_mem (by simp) n hn)
  have hq1 : Fits 22 q1.1 := fun n hn => hfit0 n (by
    rw [hy]
    simp only [DataW.weights, Tryd.underlying23]
    exact weightsAll_mem (by simp) n hn)
  obtain ⟨a0, len0, cap0, x0, rfl, l0, m0, z0, b0⟩ := open_bytes g0 hq0
  obtain ⟨a1, len1, cap1, x1, rfl, l1, m1, z1, b1⟩ := open_bytes g1 hq1
  -- the calls
  rcases open_slice Tryd.underlying24 f1 with ⟨hcs, _⟩ | ⟨a, olen, ocap, mm, nn, D, Pl, hcs, _, hol, _, hmm, hyx, hel⟩
  · obtain rfl : u2 = .slice none 0 0 := by simpa using hcs
    exact ⟨a0, len0, cap0, x0, a1, len1, cap1, x1, none, 0, 0, 0, 0, rfl, l0, m0, z0, b0, l1, m1, z1, b1, by omega, fun h => absurd h (Nat.lt_irrefl _), fun i hi => absurd hi (Nat.not_lt_zero _)⟩
  · obtain rfl : u2 = .slice (some a) olen ocap := by simpa using hcs
    simp only [if_true] at hmm
    obtain rfl := hmm.symm
    obtain ⟨ob, oo, sp⟩ := a
    rw [hyx] at hfit1
    have hw := hfit1 ((((List.range olen).map D).length + ((List.range (ocap - olen)).map fun j => D (olen + j)).length) * 56) (by simp only [DataW.weights, Tryd.underlying24, bytes52]; exact List.mem_cons_self)
    simp only [List.length_map, List.length_range, reach_eq] at hw
    have hele : ∀ i, i < olen → Fits 33 (D i) := fun i hi n hn => hfit1 n (by
      simp only [DataW.weights, Tryd.underlying24]
      exact List.mem_cons_of_mem _ (List.mem_append_left _ (weightsAll_mem (List.mem_map.2 ⟨i, List.mem_range.2 hi, rfl⟩) n hn)))
    have hsp : 0 < olen → sp = none := fun h0 => by
      obtain ⟨cs', hc, _⟩ := hel 0 (by omega)
      rw [cells52] at hc
      obtain ⟨v0, _, _, _, _, _, c0, _⟩ := cells5_of hc
      simpa [Addr.add] using World.cell?_spot c0
    refine ⟨a0, len0, cap0, x0, a1, len1, cap1, x1, some ⟨ob, oo, sp⟩, ob, oo, olen, ocap, rfl, l0, m0, z0, b0, l1, m1, z1, b1, by omega, fun h => by rw [hsp h], fun i hi => ?_⟩
    obtain rfl := hsp (by omega)
    obtain ⟨cs', hc, ht⟩ := hel i (by omega)
    rw [cells52, add_at] at hc
    exact open_op hc ht (hele i hi)
end Go.Proofs.YtbmdnlomhnodeabDoor
