/- The walk of CodePlace: one list in which other bytes lie each time. -/
import Derived.Test.YtbmdnlomhnodeabDoorPlace1
import Derived.Test.YtbmdnlomhnodeabDoorOther
import Derived.Test.YtbmdnlomhnodeabDoorPairs
namespace Go.Proofs.YtbmdnlomhnodeabDoor
open Go.RowKit
set_option maxRecDepth 100000

theorem byt_of_own {w : World} {B : Nat} {a : Option Addr} {n c : Nat} {x : Nat → Nat} (h : Own w B (.slice a n c) n x) : Byt w a n x ∧ (a = none → n = 0 ∧ c = 0) := by
  obtain ⟨a', c', e, h1, h2⟩ := own_byt' h
  cases e
  exact ⟨h1, h2⟩
theorem row_byt {w : World} {g cap len : Nat} {f : Nat → Value} {z : Nat → Nat} (h : w.rowIs g 5 cap f) (hl : len ≤ cap) (hf : ∀ j, j < len → f j = .int .u8 (z j : Nat)) : Byt w (some ⟨g, 0, none⟩) len z := fun j hj =>
  ⟨g, 0, rfl, by rw [Nat.zero_add, h.cell (by omega), hf j hj]⟩
theorem isl_keep {w w' : World} {wb B : Nat} {v : Value} {l : List Nat} (h : IsL w wb B v l) (hz : w.heap.size ≤ w'.heap.size) (hk : ∀ k, k = wb ∨ v.ownBlock = some k → w'.heap[k]? = w.heap[k]?) : IsL w' wb B v l :=
  ⟨h.cell.of_block (hk wb (Or.inl rfl)), own_keep h.own (fun k e => hk k (Or.inr e)), h.ne, Nat.le_trans h.lo hz⟩
theorem isr_keep {w w' : World} {rb hb n : Nat} {z : Nat → Nat} {at' bad : Nat} (h : IsR w rb hb n z at' bad) (hk : ∀ k, k = rb ∨ k = hb → w'.heap[k]? = w.heap[k]?) : IsR w' rb hb n z at' bad :=
  ⟨h.rd.of_block (hk _ (Or.inl rfl)), h.row.of_block (hk _ (Or.inr rfl)), h.ne, h.byte, h.le, h.room⟩

/-- The list, the other bytes, the Writer and the first Reader, each for itself in memory. -/
structure Pl (w1 W : World) (g cap : Nat) (f : Nat → Value) (Bo : Nat) (ov : Value) (len : Nat) (y : Nat → Nat) (wb Bw : Nat) (v : Value) (l : List Nat) (rb hb : Nat) (x : Nat → Nat) (at' : Nat) : Prop where
  since : w1.Since w1.heap.size W
  row : W.rowIs g 5 cap f
  own : Own W Bo ov len y
  wr : IsL W wb Bw v l
  rd : IsR W rb hb len x at' 0
  log : w1.heap.size ≤ g
  low : w1.heap.size ≤ wb
  lov : ∀ k, v.ownBlock = some k → w1.heap.size ≤ k
  lor : w1.heap.size ≤ rb
  gw : g ≠ wb
  gv : v.ownBlock ≠ some g
  go : ov.ownBlock ≠ some g
  ow : ov.ownBlock ≠ some wb
  oV : ∀ k, ov.ownBlock = some k → v.ownBlock ≠ some k
  rg : rb ≠ g ∧ hb ≠ g
  rw' : rb ≠ wb ∧ hb ≠ wb
  rv : v.ownBlock ≠ some rb ∧ v.ownBlock ≠ some hb
  ro : ov.ownBlock ≠ some rb
theorem Pl.later {w1 W W' : World} {g cap : Nat} {f : Nat → Value} {Bo : Nat} {ov : Value} {len : Nat} {y : Nat → Nat} {wb Bw : Nat} {v : Value} {l : List Nat} {rb hb : Nat} {x : Nat → Nat} {at' : Nat} (h : Pl w1 W g cap f Bo ov len y wb Bw v l rb hb x at') (hs : W.Since W.heap.size W') : Pl w1 W' g cap f Bo ov len y wb Bw v l rb hb x at' :=
  ⟨h.since.trans (since_mono hs h.since.size), row_since h.row hs, own_since h.own hs, isl_keep h.wr hs.size (fun k e => hs.block k (by
    rcases e with e | e
    · rw [e]; exact h.wr.cell.lt
    · exact own_lt h.wr.own k e)), h.rd.since hs, h.log, h.low, h.lov, h.lor, h.gw, h.gv, h.go, h.ow, h.oV, h.rg, h.rw', h.rv, h.ro⟩
theorem Pl.into {w1 W W' : World} {g cap : Nat} {f f' : Nat → Value} {Bo : Nat} {ov : Value} {len : Nat} {y : Nat → Nat} {wb Bw : Nat} {v : Value} {l : List Nat} {rb hb : Nat} {x : Nat → Nat} {at' : Nat} (h : Pl w1 W g cap f Bo ov len y wb Bw v l rb hb x at') (hb' : But g W W') (hr : W'.rowIs g 5 cap f') : Pl w1 W' g cap f' Bo ov len y wb Bw v l rb hb x at' :=
  ⟨hb'.since h.since h.log h.since.size, hr, own_keep h.own (fun k e => hb'.block k (own_lt h.own k e) (fun e2 => h.go (e2 ▸ e))), isl_keep h.wr hb'.size (fun k e => by
    rcases e with e | e
    · rw [e]; exact hb'.block wb h.wr.cell.lt (fun e => h.gw e.symm)
    · exact hb'.block k (own_lt h.wr.own k e) (fun e2 => h.gv (e2 ▸ e))), isr_keep h.rd (fun k e => by
    rcases e with e | e
    · rw [e]; exact hb'.block rb h.rd.rd.lt h.rg.1
    · rw [e]; exact hb'.block hb h.rd.row.lt h.rg.2), h.log, h.low, h.lov, h.lor, h.gw, h.gv, h.go, h.ow, h.oV, h.rg, h.rw', h.rv, h.ro⟩
theorem Pl.read {w1 W W' : World} {g cap : Nat} {f : Nat → Value} {Bo : Nat} {ov : Value} {len : Nat} {y : Nat → Nat} {wb Bw : Nat} {v : Value} {l : List Nat} {rb hb : Nat} {x : Nat → Nat} {at' at2 : Nat} (h : Pl w1 W g cap f Bo ov len y wb Bw v l rb hb x at') (hb' : But rb W W') (hr : IsR W' rb hb len x at2 0) : Pl w1 W' g cap f Bo ov len y wb Bw v l rb hb x at2 :=
  ⟨hb'.since h.since h.lor h.since.size, hb'.row h.row h.rg.1.symm, own_keep h.own (fun k e => hb'.block k (own_lt h.own k e) (fun e2 => h.ro (e2 ▸ e))), isl_keep h.wr hb'.size (fun k e => by
    rcases e with e | e
    · rw [e]; exact hb'.block wb h.wr.cell.lt (fun e => h.rw'.1 e.symm)
    · exact hb'.block k (own_lt h.wr.own k e) (fun e2 => h.rv.1 (e2 ▸ e))), hr, h.log, h.low, h.lov, h.lor, h.gw, h.gv, h.go, h.ow, h.oV, h.rg, h.rw', h.rv, h.ro⟩
theorem Pl.wrote {w1 W W' : World} {g cap : Nat} {f : Nat → Value} {Bo : Nat} {ov : Value} {len : Nat} {y : Nat → Nat} {wb Bw : Nat} {v v' : Value} {l l' : List Nat} {rb hb : Nat} {x : Nat → Nat} {at' : Nat} (h : Pl w1 W g cap f Bo ov len y wb Bw v l rb hb x at') (hI : IsL W' wb Bw v' l') (hE : Ext wb v v' W W') : Pl w1 W' g cap f Bo ov len y wb Bw v' l' rb hb x at' := by
  have hg := h.row.lt
  have hrl := h.rd.rd.lt
  have hhl := h.rd.row.lt
  have hol := own_lt h.own
  have hz := h.since.size
  have hv : ∀ k, k < W.heap.size → v.ownBlock ≠ some k → v'.ownBlock ≠ some k := fun k hk hn e => by
    rcases hE.lies with e2 | ⟨q, e2, hq⟩
    · rw [e2] at e; exact hn e
    · rw [e2] at e; cases e; omega
  have bl : ∀ k, k < W.heap.size → k ≠ wb → v.ownBlock ≠ some k → W'.heap[k]? = W.heap[k]? := fun k h1 h2 h3 => hE.block k h1 h2 (fun e => h3 e.symm)
  refine ⟨hE.since h.since h.low h.since.size h.lov, h.row.of_block (bl g hg h.gw h.gv), own_keep h.own (fun k e => bl k (hol k e) (fun e2 => h.ow (e2 ▸ e)) (h.oV k e)), hI, isr_keep h.rd (fun k e => ?_), h.log, h.low, fun k e => ?_, h.lor, h.gw, hv g hg h.gv, h.go, h.ow, fun k e => hv k (hol k e) (h.oV k e), h.rg, h.rw', ⟨hv rb hrl h.rv.1, hv hb hhl h.rv.2⟩, h.ro⟩
  · rcases e with e | e
    · rw [e]; exact bl rb hrl h.rw'.1 h.rv.1
    · rw [e]; exact bl hb hhl h.rw'.2 h.rv.2
  · rcases hE.lies with e2 | ⟨q, e2, hq⟩
    · exact h.lov k (e2 ▸ e)
    · rw [e2] at e; cases e; omega
theorem rawAns_all (n : Nat) : rawAns n (n : Int) 0 0 = (n, 0, n, 0) := by
  unfold rawAns rlook
  simp
set_option maxHeartbeats 800000 in
/-- Into: the list holds these bytes now. -/
theorem into_any2 (g len cap : Nat) (f : Nat → Value) (a : Option Addr) (m c : Nat) (y : Nat → Nat) (w : World) (hrow : w.rowIs g 5 cap f) (hlc : len ≤ cap) (hmax : len ≤ 140737488351232) (hm : len ≤ m) (hb : Byt w a m y) (hne : 0 < len → ∀ b off, a = some ⟨b, off, none⟩ → b ≠ g) :
    Calls Tryd.prog 32 #[.slice (some ⟨g, 0, none⟩) len cap, .slice a m c] w fun e w' => e = .returned (.tuple #[]) ∧ Over w w' g cap f y len := by
  have hO0 : Over w w g cap f y 0 := ⟨But.of_since (World.Since.refl _ _), hrow.congr (fun j _ => by simp)⟩
  go_enter Tryd.func32, Tryd.ntmps32
  go_wp2
  go_loopg [4] len (fun q s4 wx => ∃ k : Nat, k ≤ len ∧ q = len - k ∧ s4 = .int .i64 k ∧ Over w wx g cap f y k)
  case atStart => exact ⟨0, Nat.zero_le _, rfl, rfl, hO0⟩
  case round =>
    obtain ⟨k, hk, rfl, rfl, hO⟩ := hrel
    clear hO0
    by_cases hlt : k < len
    · obtain ⟨b, off, rfl, hc⟩ := hb k (by omega)
      have hbg := hne (by omega) b off rfl
      have hblt : b < w.heap.size := World.block_lt_of_cell? _ _ hc
      have t0 : wr.cell? ⟨b, off + k, none⟩ = some (.int .u8 (y k : Nat)) := by rw [World.cell?_of_block (w := w) (hO.but.block b hblt hbg)]; exact hc
      have t1 : wr.cell? ⟨g, k, none⟩ = some (f k) := by rw [hO.row.cell (by omega), if_neg (by omega)]
      have t2 := hO.row.frozen k
      have hst := over_step hO
      have kz : (k : Int) < (len : Int) := by omega
      have kz2 : (k : Int) < (m : Int) := by omega
      clear hc hO
      go_wp2_with fail
      go_roundg (len - (k + 1))
      case measure => go_light; omega
      case rel => go_light; exact ⟨k + 1, by omega, rfl, by simp, hst⟩
    · obtain rfl : k = len := by omega
      go_wp2_with fail
      go_end0
      exact ⟨rfl, hO⟩
end Go.Proofs.YtbmdnlomhnodeabDoor
