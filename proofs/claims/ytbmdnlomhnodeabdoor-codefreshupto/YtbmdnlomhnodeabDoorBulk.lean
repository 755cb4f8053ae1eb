/- What the bound of the second form gives of a script: no text of a call is longer than the whole's bulk. -/
import Derived.Test.YtbmdnlomhnodeabDoorScript
namespace Go.Proofs.YtbmdnlomhnodeabDoor
open Go.ChangeShapes Go.WideShapes Go.ChangeAt Go.RowKit Go.Deep
set_option maxRecDepth 100000

theorem bulk_one {H : Type} (d : DataW H) : 1 ≤ Rows.uptoBulk d := by
  cases d with
  | lit l => cases l <;> simp [Rows.uptoBulk]
  | nil => simp [Rows.uptoBulk]
  | ptr d => simp [Rows.uptoBulk]
  | slice elems spare => simp [Rows.uptoBulk]
  | agg parts => simp [Rows.uptoBulk]
  | iface t d => simp [Rows.uptoBulk]
  | map entries => simp [Rows.uptoBulk]
  | held h => simp [Rows.uptoBulk]
theorem bulk_part {H : Type} {d : DataW H} {l : List (DataW H)} (h : d ∈ l) : Rows.uptoBulk d ≤ Rows.uptoBulkAll l := by
  induction l with
  | nil => cases h
  | cons x r ih =>
    simp only [Rows.uptoBulkAll]
    cases List.mem_cons.1 h with
    | inl e => subst e; omega
    | inr e => have := ih e; omega
theorem bulk_length {H : Type} (l : List (DataW H)) : l.length ≤ Rows.uptoBulkAll l := by
  induction l with
  | nil => simp [Rows.uptoBulkAll]
  | cons x r ih => have := bulk_one x; simp only [Rows.uptoBulkAll, List.length_cons]; omega

/-- A list of bytes: no longer than its bulk. -/
theorem bulk_bytes {H : Type} {enc : TypeId × Value → H} {W : World} {fuel : Nat} {v : Value} {y : DataW H × List MemPlace} (h : DataW.trod enc Tryd.prog W 0 (fun _ => true) true fuel 22 [v] = some y)
    {a : Option Addr} {len cap : Nat} (hv : v = .slice a len cap) : len ≤ Rows.uptoBulk y.1 := by
  rcases open_ints Tryd.underlying22 Tryd.underlying5 cells5 h with ⟨hcs, _⟩ | ⟨a', len', cap', zs, hcs, _, hl, hm, hz, hx, hcell, hwf⟩
  · have : v = .slice none 0 0 := by simpa using hcs
    rw [hv] at this
    cases this
    exact Nat.zero_le _
  · simp only [if_true] at hz
    have : v = .slice (some a') len' cap' := by simpa using hcs
    rw [hv] at this
    cases this
    rw [hx]
    simp only [Rows.uptoBulk]
    have h1 := bulk_length (lits .u8 (zs.take len) : List (DataW H))
    simp only [lits, List.length_map, List.length_take] at h1
    simp only [lits]
    omega

set_option maxHeartbeats 800000 in
theorem bulk_op {H : Type} {enc : TypeId × Value → H} {W : World} {fuel ob o : Nat} {cs : List Value} {y : DataW H × List MemPlace} (hc : W.cells? 0 ⟨ob, o, none⟩ 5 = some cs) (h : DataW.trod enc Tryd.prog W 0 (fun _ => true) true fuel 33 cs = some y)
    {ba : Option Addr} {bl bc : Nat} (hv : W.cell? ⟨ob, o + 4, none⟩ = some (.slice ba bl bc)) : bl ≤ Rows.uptoBulk y.1 := by
  obtain ⟨v0, v1, v2, v3, v4, rfl, c0, c1, c2, c3, c4⟩ := cells5_of hc
  rw [add_at] at c4
  obtain ⟨xs, m, _, hx, _, hlen, hfs⟩ := DataW.trod_struct Tryd.underlying33 h
  obtain ⟨y0, y1, y2, y3, y4, rfl⟩ : ∃ y0 y1 y2 y3 y4, xs = [y0, y1, y2, y3, y4] := by
    match xs, hlen with
    | [a, b, c, d, e], _ => exact ⟨a, b, c, d, e, rfl⟩
  have f4 := hfs 4 _ rfl
  simp [cells27] at f4
  have e4 : v4 = .slice ba bl bc := by rw [c4] at hv; exact Option.some.inj hv
  have hb := bulk_bytes f4 e4
  rw [hx]
  simp only [Rows.uptoBulk, List.map]
  have hp : Rows.uptoBulk y4.1 ≤ Rows.uptoBulkAll [y0.1, y1.1, y2.1, y3.1, y4.1] := bulk_part (by simp)
  omega

set_option maxHeartbeats 800000 in
theorem bulk_script {H : Type} {enc : TypeId × Value → H} {W : World} {u0 u1 : Value} {ob oo olen ocap : Nat} {d : DataW H} {p : List MemPlace} (h : DataW.Trod enc Tryd.prog W 0 (fun _ => true) true 26 (.agg #[u0, u1, .slice (some ⟨ob, oo, none⟩) olen ocap]) d p) (i : Nat) (hi : i < olen)
    {ba : Option Addr} {bl bc : Nat} (hv : W.cell? ⟨ob, oo + i * 5 + 4, none⟩ = some (.slice ba bl bc)) : bl ≤ Rows.uptoBulk d := by
  obtain ⟨fuel, hf0⟩ := h
  obtain ⟨xs, m, _, hx, _, hlen, hfs⟩ := DataW.trod_struct Tryd.underlying26 hf0
  obtain ⟨y0, y1, rfl⟩ : ∃ y0 y1, xs = [y0, y1] := by
    match xs, hlen with
    | [a, b], _ => exact ⟨a, b, rfl⟩
  have f1 := hfs 1 _ rfl
  simp [Value.cells, cells39] at f1
  simp only [Prod.mk.injEq] at hx
  obtain ⟨hd, _⟩ := hx
  have hp : Rows.uptoBulk y1.1 ≤ Rows.uptoBulk d := by
    rw [hd]
    simp only [Rows.uptoBulk, List.map]
    have hp : Rows.uptoBulk y1.1 ≤ Rows.uptoBulkAll [y0.1, y1.1] := bulk_part (by simp)
    omega
  refine Nat.le_trans ?_ hp
  rcases open_slice Tryd.underlying24 f1 with ⟨hcs, _⟩ | ⟨a, olen', ocap', mm, nn, D, Pl, hcs, _, hol, _, hmm, hyx, hel⟩
  · exact absurd hcs (by simp)
  · have e2 : (Value.slice (some ⟨ob, oo, none⟩) olen ocap) = .slice (some a) olen' ocap' := by simpa using hcs
    cases e2
    simp only [if_true] at hmm
    obtain rfl := hmm.symm
    obtain ⟨cs', hc, ht⟩ := hel i (by omega)
    rw [cells52, add_at] at hc
    have hb : bl ≤ Rows.uptoBulk (D i) := bulk_op hc ht hv
    rw [hyx]
    simp only [Rows.uptoBulk]
    have : Rows.uptoBulk (D i) ≤ Rows.uptoBulkAll ((List.range olen).map D) := bulk_part (List.mem_map.2 ⟨i, List.mem_range.2 hi, rfl⟩)
    omega
theorem bulk_bound {H : Type} {l : List (DataW H)} (hk : Rows.uptoSmall H l = true) : Rows.uptoBulkAll l ≤ 1048576 := by
  simpa [Rows.uptoSmall] using hk
end Go.Proofs.YtbmdnlomhnodeabDoor
