/- What CodeMany's argument is in memory, and what the bound of the second form gives of it. -/
import Derived.Test.YtbmdnlomhnodeaaDoorTexts
import Derived.Test.YtbmdnlomhnodeaaDoorBulk
namespace Go.Proofs.YtbmdnlomhnodeaaDoor
open Go.ChangeShapes Go.WideShapes Go.ChangeAt Go.RowKit Go.Deep

theorem cells55 : Tryd.prog.cellsOf 55 = 2 := by kernel_rfl

theorem open_crowd {H : Type} {enc : TypeId × Value → H} {W : World} {base : Nat} {v : Value} {d : DataW H} {p : List MemPlace} (hv : Value.okWide Tryd.prog W .any base 55 v) (h : DataW.Trod enc Tryd.prog W 0 (fun _ => true) true 55 v d p) (hf : Fits 55 d) :
    ∃ N : Int, ∃ ga gb go G Gc A L C Z, v = .agg #[.int .i64 N, .slice ga G Gc] ∧ RowsAre W ga gb go G Gc A L C Z := by
  obtain ⟨cs, rfl, hcsz⟩ := okWide_struct Tryd.underlying55 hv
  rw [cells55] at hcsz
  obtain ⟨u0, u1, rfl⟩ : ∃ u0 u1, cs = #[u0, u1] := by
    rcases cs with ⟨l⟩
    match l, hcsz with
    | [a, b], _ => exact ⟨a, b, rfl⟩
  obtain ⟨fuel, hf0⟩ := h
  obtain ⟨xs, m, _, hx, _, hlen, hfs⟩ := DataW.trod_struct Tryd.underlying55 hf0
  obtain ⟨y0, y1, rfl⟩ : ∃ y0 y1, xs = [y0, y1] := by
    match xs, hlen with
    | [a, b], _ => exact ⟨a, b, rfl⟩
  have f0 := hfs 0 _ rfl
  have f1 := hfs 1 _ rfl
  simp [Value.cells, cells3] at f0
  simp [Value.cells, cells22] at f1
  simp only [Prod.mk.injEq] at hx
  obtain ⟨hd, _⟩ := hx
  obtain ⟨n0, e0, _, _⟩ := DataW.trod_int Tryd.underlying3 f0
  obtain rfl : u0 = .int .i64 n0 := by simpa using e0
  have hfit1 : Fits 22 y1.1 := fun n hn => hf n (by
    rw [hd]
    simp only [DataW.weights, Tryd.underlying55]
    exact DataW.weights_mem_each (j := 1) rfl rfl n hn)
  obtain ⟨ga, gb, go, G, Gc, A, L, C, Z, rfl, hR⟩ := open_rows f1 hfit1
  exact ⟨n0, ga, gb, go, G, Gc, A, L, C, Z, rfl, hR⟩

set_option maxHeartbeats 800000 in
theorem bulk_crowd {H : Type} {enc : TypeId × Value → H} {W : World} {u0 : Value} {gb go G Gc : Nat} {d : DataW H} {p : List MemPlace} (h : DataW.Trod enc Tryd.prog W 0 (fun _ => true) true 55 (.agg #[u0, .slice (some ⟨gb, go, none⟩) G Gc]) d p) (i : Nat) (hi : i < G)
    {ba : Option Addr} {bl bc : Nat} (hv : W.cell? ⟨gb, go + i, none⟩ = some (.slice ba bl bc)) : bl ≤ Rows.uptoBulk d := by
  obtain ⟨fuel, hf0⟩ := h
  obtain ⟨xs, m, _, hx, _, hlen, hfs⟩ := DataW.trod_struct Tryd.underlying55 hf0
  obtain ⟨y0, y1, rfl⟩ : ∃ y0 y1, xs = [y0, y1] := by
    match xs, hlen with
    | [a, b], _ => exact ⟨a, b, rfl⟩
  have f1 := hfs 1 _ rfl
  simp [Value.cells, cells22] at f1
  simp only [Prod.mk.injEq] at hx
  obtain ⟨hd, _⟩ := hx
  have hp : Rows.uptoBulk y1.1 ≤ Rows.uptoBulk d := by
    rw [hd]
    simp only [Rows.uptoBulk, List.map]
    have hp : Rows.uptoBulk y1.1 ≤ Rows.uptoBulkAll [y0.1, y1.1] := bulk_part (by simp)
    omega
  refine Nat.le_trans ?_ hp
  rcases open_slice1 Tryd.underlying22 cells27 f1 with ⟨hcs, _⟩ | ⟨a, G', Gc', mm, nn, V, D, Pl, hcs, _, hol, _, hmm, hyx, hel⟩
  · exact absurd hcs (by simp)
  · have e2 : (Value.slice (some ⟨gb, go, none⟩) G Gc) = .slice (some a) G' Gc' := by simpa using hcs
    cases e2
    simp only [if_true] at hmm
    obtain rfl := hmm.symm
    obtain ⟨hc, ht⟩ := hel i (by omega)
    rw [add_at, hv] at hc
    have hb : bl ≤ Rows.uptoBulk (D i) := bulk_bytes ht (Option.some.inj hc).symm
    rw [hyx]
    simp only [Rows.uptoBulk]
    have : Rows.uptoBulk (D i) ≤ Rows.uptoBulkAll ((List.range G).map D) := bulk_part (List.mem_map.2 ⟨i, List.mem_range.2 hi, rfl⟩)
    omega
end Go.Proofs.YtbmdnlomhnodeaaDoor
