/- Own texts, joined: E3, E4, E5, E6, E7, E8, E9, D4. -/
import Derived.Test.YtbnlgohaaadgeaaM1
import Derived.Deep.RegionHeld3
import Derived.Deep.RegionLaw
import Derived.Lib.SliceRun
import Derived.BigQuiet

/- Package disk: a file with its changes: units, after. -/
namespace Go.Proofs.Ytbnlgohaaadgeaa
open Go.RowKit
set_option maxRecDepth 100000
set_option maxRecDepth 100000

/-- A file: its safe bytes, the changes behind them, how many bytes are seen. -/
structure FM where
  safe : List Nat
  chs : List Chg
  sz : Nat
def unitsM : List Chg → Nat
  | [] => 0
  | c :: cs => c.un + unitsM cs
/-- All changes carried out. -/
def runM : List Nat → List Chg → List Nat
  | r, [] => r
  | r, c :: cs => runM (c.onto r c.un) cs
/-- Every cut is one of bytes that are there. -/
def okM : List Nat → List Chg → Prop
  | _, [] => True
  | r, c :: cs => (c.b.length = 0 → c.t ≤ r.length) ∧ okM (c.onto r c.un) cs
/-- The first n units carried out. -/
def aftM : List Nat → List Chg → Nat → List Nat
  | r, [], _ => r
  | r, c :: cs, n => aftM (c.onto r (min n c.un)) cs (n - min n c.un)
def sumB : List Chg → Nat
  | [] => 0
  | c :: cs => c.b.length + sumB cs
theorem un_pos (c : Chg) : 1 ≤ c.un := by unfold Chg.un; split <;> omega
theorem un_le (c : Chg) : c.un ≤ c.b.length + 1 := by unfold Chg.un; split <;> omega
theorem onto_len (c : Chg) (r : List Nat) (n : Nat) : (c.onto r n).length ≤ r.length + c.b.length := by
  unfold Chg.onto
  split
  · omega
  · split
    · rw [List.length_take]; omega
    · rw [List.length_append, List.length_take]; omega

def fCell (rv cv : Value) (sz : Nat) (i : Nat) : Value := if i = 0 then rv else if i = 1 then cv else .int .i64 (sz : Nat)
/-- The cells of changes. -/
def chCells (av : Nat → Value) : Nat → List Chg → List Value
  | _, [] => []
  | i, c :: cs => av i :: .int .i64 (c.t : Nat) :: chCells av (i + 1) cs
theorem chCells_len (av : Nat → Value) : ∀ i (cs : List Chg), (chCells av i cs).length = cs.length * 2
  | _, [] => rfl
  | i, c :: cs => by show (chCells av (i + 1) cs).length + 1 + 1 = _; rw [chCells_len av (i + 1) cs, List.length_cons]; omega
theorem chCells_at (av : Nat → Value) : ∀ (cs : List Chg) (i k : Nat) (c : Chg), cs[k]? = some c → (chCells av i cs)[k * 2]? = some (av (i + k)) ∧ (chCells av i cs)[k * 2 + 1]? = some (.int .i64 (c.t : Nat))
  | [], i, k, c, h => by simp at h
  | d :: cs, i, 0, c, h => by
    have : d = c := by simpa using h
    subst this
    exact ⟨rfl, rfl⟩
  | d :: cs, i, k + 1, c, h => by
    have h' : cs[k]? = some c := by simpa using h
    have q := chCells_at av cs (i + 1) k c h'
    rw [show (k + 1) * 2 = k * 2 + 1 + 1 by omega, show i + (k + 1) = i + 1 + k by omega]
    exact q

structure FileIs (w : World) (B fb : Nat) (m : FM) (rv cv : Value) (av : Nat → Value) : Prop where
  row : w.rowIs fb 98 3 (fCell rv cv m.sz)
  own : OwnL w B rv m.safe
  cow : w.ownsRow B 116 2 cv m.chs.length (chCells av 0 m.chs)
  aow : ∀ i c, m.chs[i]? = some c → OwnL w B (av i) c.b
  ra : ∀ i, i < m.chs.length → ∀ k, rv.ownBlock = some k → (av i).ownBlock ≠ some k
  aa : ∀ i j, i < j → j < m.chs.length → ∀ k, (av i).ownBlock = some k → (av j).ownBlock ≠ some k
  lb : B ≤ fb
/-- What of memory is the file's. -/
def FFt (fb : Nat) (rv cv : Value) (av : Nat → Value) (n : Nat) (k : Nat) : Prop := k = fb ∨ rv.ownBlock = some k ∨ cv.ownBlock = some k ∨ ∃ i, i < n ∧ (av i).ownBlock = some k
theorem rows_keep {w w' : World} {K n s : Nat} {e : TypeId} {v : Value} {xs : List Value} (h : w.ownsRow K e s v n xs) (hb : ∀ k, v.ownBlock = some k → w'.heap[k]? = w.heap[k]?) : w'.ownsRow K e s v n xs := by
  refine ⟨h.1, ?_⟩
  rcases h.2 with h0 | ⟨g, cap, cur, ev, hk, hq, hr⟩
  · exact .inl h0
  · exact .inr ⟨g, cap, cur, ev, hk, (hb g (by rw [ev]; rfl)).trans hq, hr⟩
theorem FileIs.later {w w' : World} {B fb : Nat} {m : FM} {rv cv : Value} {av : Nat → Value} (h : FileIs w B fb m rv cv av) (hb : ∀ k, FFt fb rv cv av m.chs.length k → w'.heap[k]? = w.heap[k]?) : FileIs w' B fb m rv cv av :=
  ⟨h.row.of_block (hb _ (.inl rfl)), h.own.on (fun k e => hb k (.inr (.inl e))), rows_keep h.cow (fun k e => hb k (.inr (.inr (.inl e)))), fun i c hc => (h.aow i c hc).on (fun k e => hb k (.inr (.inr (.inr ⟨i, (List.getElem?_eq_some_iff.1 hc).1, e⟩)))), h.ra, h.aa, h.lb⟩
theorem rows_lt {w : World} {K n s : Nat} {e : TypeId} {v : Value} {xs : List Value} (h : w.ownsRow K e s v n xs) : ∀ k, v.ownBlock = some k → K ≤ k ∧ k < w.heap.size := fun k hk => by
  rcases h.2 with ⟨rfl, _⟩ | ⟨g, cap, cur, rfl, hb, hq, _⟩
  · simp [Value.ownBlock] at hk
  · have : g = k := by simpa [Value.ownBlock] using hk
    subst this
    exact ⟨hb, (Array.getElem?_eq_some_iff.1 hq).1⟩
theorem FileIs.ge {w : World} {B fb : Nat} {m : FM} {rv cv : Value} {av : Nat → Value} (h : FileIs w B fb m rv cv av) : ∀ k, FFt fb rv cv av m.chs.length k → B ≤ k ∧ k < w.heap.size := fun k hf => by
  rcases hf with e | e | e | ⟨i, hi, e⟩
  · rw [e]; exact ⟨h.lb, h.row.lt⟩
  · exact h.own.lt k e
  · exact rows_lt h.cow k e
  · exact (h.aow i _ (List.getElem?_eq_getElem hi)).lt k e
theorem FileIs.on {w w' : World} {B fb : Nat} {m : FM} {rv cv : Value} {av : Nat → Value} (h : FileIs w B fb m rv cv av) (hb : Below w.heap.size w w') : FileIs w' B fb m rv cv av :=
  h.later (fun k hf => hb.block k (h.ge k hf).2)
/-- A change, as it lies in the file. -/
theorem FileIs.chg {w : World} {B fb : Nat} {m : FM} {rv cv : Value} {av : Nat → Value} (h : FileIs w B fb m rv cv av) {i : Nat} {c : Chg} (hc : m.chs[i]? = some c) :
    ∃ g cc ba bc, cv = .slice (some ⟨g, 0, none⟩) m.chs.length cc ∧ m.chs.length ≤ cc ∧ av i = .slice ba c.b.length bc ∧ c.b.length ≤ bc ∧ BL w ba c.b ∧ (ba = none → c.b.length = 0 ∧ bc = 0) ∧ w.cell? ⟨g, i * 2, none⟩ = some (.slice ba c.b.length bc) ∧ w.cell? ⟨g, i * 2 + 1, none⟩ = some (.int .i64 (c.t : Nat)) := by
  have hi := (List.getElem?_eq_some_iff.1 hc).1
  obtain ⟨ba, bc, ea, hbc, hbl, hbn⟩ := (h.aow i c hc).bl
  have q := chCells_at av m.chs 0 i c hc
  rw [Nat.zero_add] at q
  rcases h.cow.2 with ⟨e, h0⟩ | ⟨g, cc, cur, e, _, _, hcc, _⟩
  · omega
  · have hl := chCells_len av 0 m.chs
    have hcow := h.cow
    rw [e] at hcow
    refine ⟨g, cc, ba, bc, e, hcc, ea, hbc, hbl, hbn, ?_, ?_⟩
    · rw [World.ownsRow.cellAt hcow (i * 2) (by omega), q.1, ea]
    · rw [World.ownsRow.cellAt hcow (i * 2 + 1) (by omega), q.2]

theorem drop_cons {cs : List Chg} {i : Nat} {c : Chg} (h : cs[i]? = some c) : cs.drop i = c :: cs.drop (i + 1) := by
  obtain ⟨hi, e⟩ := List.getElem?_eq_some_iff.1 h
  rw [List.drop_eq_getElem_cons hi, e]
theorem units_take (cs : List Chg) : ∀ i, unitsM (cs.take i) + unitsM (cs.drop i) = unitsM cs := by
  induction cs with
  | nil => intro i; cases i <;> rfl
  | cons c cs ih =>
    intro i
    cases i with
    | zero => simp [unitsM]
    | succ i =>
      have := ih i
      simp only [List.take_succ_cons, List.drop_succ_cons, unitsM]
      omega
theorem units_drop {cs : List Chg} {i : Nat} {c : Chg} (h : cs[i]? = some c) : unitsM (cs.drop i) = c.un + unitsM (cs.drop (i + 1)) := by rw [drop_cons h]; rfl

theorem len_units : ∀ cs : List Chg, cs.length ≤ unitsM cs
  | [] => Nat.le_refl _
  | c :: cs => by
    have h1 := len_units cs
    have h2 := un_pos c
    show cs.length + 1 ≤ c.un + unitsM cs
    omega

set_option maxHeartbeats 1600000 in
theorem units_any {w : World} {B fb : Nat} {m : FM} {rv cv : Value} {av : Nat → Value} (h : FileIs w B fb m rv cv av) (hU : unitsM m.chs ≤ 1099511627776) :
    Calls Try.prog 42 #[.pointer (some ⟨fb, 0, none⟩)] w fun e w' => e = .returned (.int .i64 (unitsM m.chs : Nat)) ∧ Below w.heap.size w w' := by
  have c1 : w.cell? ⟨fb, 1, none⟩ = some cv := h.row.cell (i := 1) (by decide)
  obtain ⟨cva, cvc, ecv⟩ : ∃ a c, cv = .slice a m.chs.length c := by
    rcases h.cow.2 with ⟨e, h0⟩ | ⟨g, cc, cur, e, _⟩
    · exact ⟨none, 0, by rw [e, ← h0]⟩
    · exact ⟨_, cc, e⟩
  rw [ecv] at c1
  have HF : Hid (FileIs w B fb m rv cv av) := h
  have HE : Hid (cv = .slice cva m.chs.length cvc) := ecv
  clear h ecv
  go_enter Try.func42, Try.ntmps42
  go_wp2_with fail
  go_loopg [3, 11] m.chs.length (fun q s3 s11 wx => ∃ (i u : Nat), i ≤ m.chs.length ∧ q = m.chs.length - i ∧ s11 = .int .i64 i ∧ s3 = .int .i64 u ∧ u + unitsM (m.chs.drop i) = unitsM m.chs ∧ Below w.heap.size w wx)
  case atStart => exact ⟨0, 0, Nat.zero_le _, rfl, rfl, rfl, by simp, Below.refl _ _⟩
  case round =>
    obtain ⟨i, u, hi, rfl, rfl, rfl, hu, hb⟩ := hrel
    have hll := len_units m.chs
    by_cases hlt : i < m.chs.length
    · have hwi : IntKind.i64.wrap ((i : Int) + 1) = (i : Int) + 1 := by rw [IntKind.wrap_i64]; omega
      have hc : m.chs[i]? = some m.chs[i] := List.getElem?_eq_getElem hlt
      have hz : (i : Int) < (m.chs.length : Int) := by omega
      obtain ⟨g, cc, ba, bc, e1, _, e2, _, _, _, k0, k1⟩ := (HF.out.on hb).chg hc
      rw [HE.out] at e1
      have eva : cva = some ⟨g, 0, none⟩ := by injection e1
      subst eva
      have hud := units_drop hc
      generalize m.chs[i] = ch at *
      obtain ⟨U, hU1, hU2⟩ : ∃ U : Nat, (u : Int) + ((ch.un : Nat) : Int) = (U : Int) ∧ U = u + ch.un := ⟨u + ch.un, by omega, rfl⟩
      have hwU : IntKind.i64.wrap (U : Int) = (U : Int) := by rw [IntKind.wrap_i64]; omega
      have HU : Hid (U + unitsM (m.chs.drop (i + 1)) = unitsM m.chs) := by show _ = _; omega
      have hcu : ∀ W, Calls Try.prog 66 #[.agg #[.slice ba ch.b.length bc, .int .i64 (ch.t : Nat)]] W fun e w' => e = .returned (.int .i64 ((ch.un : Nat) : Int)) ∧ Below W.heap.size W w' := fun W => chUnits_any ba ch.b.length bc (ch.t : Nat) W
      have hb2 := hb.alloc hb.size (.cells #[.slice ba ch.b.length bc, .int .i64 (ch.t : Nat)] 116)
      have n0 : (wr.alloc (.cells #[.slice ba ch.b.length bc, .int .i64 (ch.t : Nat)] 116)).cell? ⟨wr.heap.size, 0, none⟩ = some (.slice ba ch.b.length bc) := World.cell?_alloc_at (w := wr) _ _ _ 0 rfl
      have n1 : (wr.alloc (.cells #[.slice ba ch.b.length bc, .int .i64 (ch.t : Nat)] 116)).cell? ⟨wr.heap.size, 1, none⟩ = some (.int .i64 (ch.t : Nat)) := World.cell?_alloc_at (w := wr) _ _ _ 1 rfl
      clear hu hud hU2 hc e1 e2
      generalize ch.b.length = bl at *
      generalize ch.un = cu at *
      generalize ch.t = ct at *
      go_upto_region 5 with fail
      generalize wr.alloc (.cells #[.slice ba bl bc, .int .i64 (ct : Nat)] 116) = W2 at *
      generalize wr.heap.size = ib at *
      clear k0 k1
      go_wp2_with fail
      refine (hcu _).mono ?_
      rintro e w3 ⟨rfl, hb3⟩
      clear hcu
      go_wp2_with fail
      go_roundg (m.chs.length - (i + 1))
      case measure => go_light; omega
      case rel => go_light; exact ⟨i + 1, U, by omega, rfl, by simp, rfl, HU.out, hb2.trans (hb3.mono hb2.size)⟩
    · obtain rfl : i = m.chs.length := by omega
      have hz : ¬ ((m.chs.length : Int) < (m.chs.length : Int)) := by omega
      have e : m.chs.drop m.chs.length = [] := List.drop_eq_nil_of_le (Nat.le_refl _)
      rw [e] at hu
      have hu2 : u = unitsM m.chs := hu
      clear hu e
      subst hu2
      go_wp2_with fail
      go_ret
      exact ⟨rfl, hb⟩

end Go.Proofs.Ytbnlgohaaadgeaa

/- Package disk: the bytes of a file behind its first changes: after. -/
namespace Go.Proofs.Ytbnlgohaaadgeaa
open Go.RowKit
set_option maxRecDepth 100000
set_option maxRecDepth 100000

theorem sum_drop {cs : List Chg} {i : Nat} {c : Chg} (h : cs[i]? = some c) : sumB (cs.drop i) = c.b.length + sumB (cs.drop (i + 1)) := by rw [drop_cons h]; rfl

set_option maxHeartbeats 3200000 in
theorem after_any {w : World} {B fb : Nat} {m : FM} {rv cv : Value} {av : Nat → Value} (h : FileIs w B fb m rv cv av) (hok : okM m.safe m.chs) (hL : m.safe.length + sumB m.chs ≤ 1099511627776) (hN : m.chs.length ≤ 1099511627776) (n : Nat) (hn : n ≤ 4611686018427387904) :
    Calls Try.prog 41 #[.pointer (some ⟨fb, 0, none⟩), .int .i64 n] w fun e w' => ∃ v, e = .returned v ∧ OwnL w' w.heap.size v (aftM m.safe m.chs n) ∧ Below w.heap.size w w' := by
  have c0 : w.cell? ⟨fb, 0, none⟩ = some rv := h.row.cell (i := 0) (by decide)
  have c1 : w.cell? ⟨fb, 1, none⟩ = some cv := h.row.cell (i := 1) (by decide)
  obtain ⟨ra, rc, erv, _, hrb, _⟩ := h.own.bl
  rw [erv] at c0
  obtain ⟨cva, cvc, ecv⟩ : ∃ a c, cv = .slice a m.chs.length c := by
    rcases h.cow.2 with ⟨e, h0⟩ | ⟨g, cc, cur, e, _⟩
    · exact ⟨none, 0, by rw [e, ← h0]⟩
    · exact ⟨_, cc, e⟩
  rw [ecv] at c1
  have HF : Hid (FileIs w B fb m rv cv av) := h
  have HE : Hid (cv = .slice cva m.chs.length cvc) := ecv
  have hcp := copied_any ra m.safe.length rc _ w (by omega) hrb
  clear h ecv erv hrb
  go_enter Try.func41, Try.ntmps41
  go_wp2_with fail
  refine hcp.mono ?_
  rintro e w1 ⟨rfl, hs, hz, hr⟩
  clear hcp c0
  have hb1 := below_of_since hs
  have hb2 := hb1.alloc hb1.size (.cells #[.slice (some ⟨w.heap.size, 0, none⟩) m.safe.length m.safe.length] 86)
  have hrow : (w1.alloc (.cells #[.slice (some ⟨w.heap.size, 0, none⟩) m.safe.length m.safe.length] 86)).rowIs w1.heap.size 86 1 (fun _ => .slice (some ⟨w.heap.size, 0, none⟩) m.safe.length m.safe.length) := World.rowIs_alloc w1 #[.slice (some ⟨w.heap.size, 0, none⟩) m.safe.length m.safe.length] _ _ (fun i hi => by
    match i, hi with
    | 0, _ => rfl)
  have hown : OwnL (w1.alloc (.cells #[.slice (some ⟨w.heap.size, 0, none⟩) m.safe.length m.safe.length] 86)) w.heap.size (.slice (some ⟨w.heap.size, 0, none⟩) m.safe.length m.safe.length) m.safe := by
    have hr2 := hr.alloc (.cells #[.slice (some ⟨w.heap.size, 0, none⟩) m.safe.length m.safe.length] 86)
    obtain ⟨cs, hcs, hsz, hat⟩ := hr2
    have hml : maxLen = 9223372036854775807 := rfl
    refine ⟨by rw [length_cellsOf]; omega, .inr ⟨w.heap.size, m.safe.length, cs, rfl, Nat.le_refl _, hcs, Nat.le_refl _, by omega, by omega, ?_⟩⟩
    apply List.ext_getElem?
    intro j
    rw [List.getElem?_take]
    by_cases hj : j < m.safe.length
    · rw [if_pos (by omega), get_cellsOf hj]
      have := hat j hj
      simpa using this
    · rw [if_neg (by omega), List.getElem?_eq_none (by rw [length_cellsOf]; omega)]
  have d1 := cel_on (hb1.alloc hb1.size (.cells #[.slice (some ⟨w.heap.size, 0, none⟩) m.safe.length m.safe.length] 86)) c1
  have hlbw : w.heap.size ≤ w1.heap.size := hb1.size
  clear c1 hs hr hz
  go_upto_region 2 with fail
  generalize w1.alloc (.cells #[.slice (some ⟨w.heap.size, 0, none⟩) m.safe.length m.safe.length] 86) = W2 at *
  generalize w1.heap.size = lb at *
  clear hb1
  have HIN : Hid (∃ v, W2.rowIs lb 86 1 (fun _ => v) ∧ OwnL W2 w.heap.size v m.safe) := ⟨_, hrow, hown⟩
  clear hrow hown
  go_wp2_with fail
  go_loopg [1, 19] m.chs.length (fun q s1 s19 wx => ∃ (i k : Nat) (r : List Nat) (v : Value), i ≤ m.chs.length ∧ q = m.chs.length - i ∧ s19 = .int .i64 i ∧ s1 = .int .i64 k ∧ k ≤ n ∧ aftM r (m.chs.drop i) k = aftM m.safe m.chs n ∧ (k = 0 ∨ okM r (m.chs.drop i)) ∧ r.length + sumB (m.chs.drop i) ≤ 1099511627776 ∧ wx.rowIs lb 86 1 (fun _ => v) ∧ OwnL wx w.heap.size v r ∧ Below w.heap.size w wx)
  case atStart =>
    obtain ⟨v, h1, h2⟩ := HIN.out
    exact ⟨0, n, m.safe, v, Nat.zero_le _, rfl, rfl, rfl, Nat.le_refl _, rfl, .inr hok, hL, h1, h2, hb2⟩
  case round =>
    obtain ⟨i, k, r, v, hi, rfl, rfl, rfl, hkn, haf, hokr, hlr, hrw, how, hb⟩ := hrel
    clear HIN d1 hb2
    by_cases hlt : i < m.chs.length
    · have hwi : IntKind.i64.wrap ((i : Int) + 1) = (i : Int) + 1 := by rw [IntKind.wrap_i64]; omega
      have hc : m.chs[i]? = some m.chs[i] := List.getElem?_eq_getElem hlt
      have hz : (i : Int) < (m.chs.length : Int) := by omega
      obtain ⟨g, cc, ba, bc, e1, _, e2, hbc, hbl, hbn, k0, k1⟩ := (HF.out.on hb).chg hc
      rw [HE.out] at e1
      have eva : cva = some ⟨g, 0, none⟩ := by injection e1
      subst eva
      have hdc := drop_cons hc
      have hsd := sum_drop hc
      generalize m.chs[i] = ch at *
      rw [hdc] at haf hokr
      obtain ⟨K, hK⟩ : ∃ K : Nat, K = min k ch.un := ⟨_, rfl⟩
      have hmin : min (k : Int) ((ch.un : Nat) : Int) = (K : Int) := by omega
      obtain ⟨k', hk', hk2⟩ : ∃ k' : Nat, (k : Int) - (K : Int) = (k' : Int) ∧ k' = k - K := ⟨k - K, by omega, rfl⟩
      have hwk : IntKind.i64.wrap (k' : Int) = (k' : Int) := by rw [IntKind.wrap_i64]; omega
      have HAF : Hid (aftM (ch.onto r K) (m.chs.drop (i + 1)) k' = aftM m.safe m.chs n) := by
        rw [hk2, hK]
        exact haf
      have HOK : Hid (k' = 0 ∨ okM (ch.onto r K) (m.chs.drop (i + 1))) := by
        by_cases e : k' = 0
        · exact .inl e
        · rcases hokr with e' | hokr
          · omega
          · have : K = ch.un := by omega
            rw [this]
            exact .inr hokr.2
      have HLN : Hid ((ch.onto r K).length + sumB (m.chs.drop (i + 1)) ≤ 1099511627776) := by
        have := onto_len ch r K
        show _ ≤ _
        omega
      have HKN : Hid (k' ≤ n) := by show _ ≤ _; omega
      have hb2 := hb.alloc hb.size (.cells #[.slice ba ch.b.length bc, .int .i64 (ch.t : Nat)] 116)
      have bq : Below wr.heap.size wr (wr.alloc (.cells #[.slice ba ch.b.length bc, .int .i64 (ch.t : Nat)] 116)) := (Below.refl _ _).alloc (Nat.le_refl _) _
      have n0 : (wr.alloc (.cells #[.slice ba ch.b.length bc, .int .i64 (ch.t : Nat)] 116)).cell? ⟨wr.heap.size, 0, none⟩ = some (.slice ba ch.b.length bc) := World.cell?_alloc_at (w := wr) _ _ _ 0 rfl
      have n1 : (wr.alloc (.cells #[.slice ba ch.b.length bc, .int .i64 (ch.t : Nat)] 116)).cell? ⟨wr.heap.size, 1, none⟩ = some (.int .i64 (ch.t : Nat)) := World.cell?_alloc_at (w := wr) _ _ _ 1 rfl
      have hcu : ∀ W, Calls Try.prog 66 #[.agg #[.slice ba ch.b.length bc, .int .i64 (ch.t : Nat)]] W fun e w' => e = .returned (.int .i64 ((ch.un : Nat) : Int)) ∧ Below W.heap.size W w' := fun W => chUnits_any ba ch.b.length bc (ch.t : Nat) W
      have HSZ : Hid (∀ W3, Below (wr.alloc (.cells #[.slice ba ch.b.length bc, .int .i64 (ch.t : Nat)] 116)).heap.size (wr.alloc (.cells #[.slice ba ch.b.length bc, .int .i64 (ch.t : Nat)] 116)) W3 → Below wr.heap.size wr W3) := fun W3 h3 => bq.trans (h3.mono bq.size)
      have HON : Hid (∀ W, Below wr.heap.size wr W → Calls Try.prog 67 #[.agg #[.slice ba ch.b.length bc, .int .i64 (ch.t : Nat)], .pointer (some ⟨lb, 0, none⟩), .int .i64 K] W fun e w' => e = .returned (.tuple #[]) ∧ ∃ v', w'.rowIs lb 86 1 (fun _ => v') ∧ OwnL w' w.heap.size v' (ch.onto r K) ∧ Below w.heap.size w w') := fun W hbW => by
        have hrW := hrw.of_block (hbW.block _ hrw.lt)
        have hoW := how.on (w' := W) (fun q e => hbW.block q (how.lt q e).2)
        have hct : K ≠ 0 → ch.b.length = 0 → ch.t ≤ r.length := fun hk0 => by
          rcases hokr with e' | hokr
          · omega
          · exact hokr.1
        have hbwW := hb.trans (hbW.mono hb.size)
        refine (onto_any (F := fun _ => v) hrW (by decide) (by decide) rfl hoW ch ba bc (hbl.on hbW) hbn hbc K (by omega) hct (by omega) (Nat.le_trans hb.size hbW.size)).mono fun e w' ⟨he, v', hO⟩ => ⟨he, v', hO.row.congr (fun j hj => by rw [if_pos (by omega)]), hO.own, ?_⟩
        exact ⟨hO.os.trans hbwW.os, hO.tape.trans hbwW.tape, hO.output.trans hbwW.output, Nat.le_trans hbwW.size hO.size, fun q hq => (hO.block q (Nat.lt_of_lt_of_le hq hbwW.size) (by omega) (fun e => by have := (how.lt q e).1; omega)).trans (hbwW.block q hq)⟩
      clear haf hokr hlr hrw how hbl hbn hbc hK hk2 hdc hsd hc e1 e2 hkn
      generalize ch.b.length = bl at *
      generalize ch.un = cu at *
      generalize ch.t = ct at *
      go_upto_region 5 with fail
      generalize wr.alloc (.cells #[.slice ba bl bc, .int .i64 (ct : Nat)] 116) = W4 at *
      generalize wr.heap.size = ib at *
      clear k0 k1
      go_wp2_with fail
      refine (hcu _).mono ?_
      rintro e w3 ⟨rfl, hb3⟩
      have o0 := cel_on hb3 n0
      have o1 := cel_on hb3 n1
      have hon := HON.out w3 (HSZ.out w3 hb3)
      clear hcu n0 n1 HON HSZ bq
      go_wp2_with fail
      refine hon.mono ?_
      rintro e w4 ⟨rfl, v', hrw', how', hb'⟩
      clear hon o0 o1
      go_wp2_with fail
      go_roundg (m.chs.length - (i + 1))
      case measure => go_light; omega
      case rel => go_light; exact ⟨i + 1, k', _, v', by omega, rfl, by simp, rfl, HKN.out, HAF.out, HOK.out, HLN.out, hrw', how', hb'⟩
    · obtain rfl : i = m.chs.length := by omega
      have e : m.chs.drop m.chs.length = [] := List.drop_eq_nil_of_le (Nat.le_refl _)
      rw [e] at haf
      have hz : ¬ ((m.chs.length : Int) < (m.chs.length : Int)) := by omega
      have HA : Hid (r = aftM m.safe m.chs n) := haf
      have l0 : wr.cell? ⟨lb, 0, none⟩ = some v := hrw.cell (i := 0) (by decide)
      obtain ⟨va, vc, ev, _, _, _⟩ := how.bl
      subst ev
      have HO : Hid _ := how
      have HB : Hid _ := hb
      clear haf e hokr hlr hrw how hkn hb
      go_wp2_with fail
      go_ret
      exact ⟨_, rfl, by rw [← HA.out]; exact HO.out, HB.out⟩
end Go.Proofs.Ytbnlgohaaadgeaa

/- Package disk: what a step leaves of a file; one change more; cut. -/
namespace Go.Proofs.Ytbnlgohaaadgeaa
open Go.RowKit
set_option maxRecDepth 100000
set_option maxRecDepth 100000

structure Mv (F F' : Nat → Prop) (w w' : World) : Prop where
  os : w'.os = w.os
  tape : w'.tape = w.tape
  output : w'.output = w.output
  size : w.heap.size ≤ w'.heap.size
  block : ∀ k, k < w.heap.size → ¬ F k → w'.heap[k]? = w.heap[k]?
  foot : ∀ k, F' k → F k ∨ w.heap.size ≤ k
theorem Mv.trans {F F' F'' : Nat → Prop} {a b c : World} (h : Mv F F' a b) (k : Mv F' F'' b c) : Mv F F'' a c :=
  ⟨k.os.trans h.os, k.tape.trans h.tape, k.output.trans h.output, Nat.le_trans h.size k.size, fun q hq hn => (k.block q (Nat.lt_of_lt_of_le hq h.size) (fun hf => by
    rcases h.foot q hf with e | e
    · exact hn e
    · omega)).trans (h.block q hq hn), fun q hf => by
    rcases k.foot q hf with e | e
    · exact h.foot q e
    · exact Or.inr (Nat.le_trans h.size e)⟩
theorem Mv.refl (F : Nat → Prop) (w : World) : Mv F F w w := ⟨rfl, rfl, rfl, Nat.le_refl _, fun _ _ _ => rfl, fun _ h => Or.inl h⟩
theorem Mv.of_below {F : Nat → Prop} {w w' : World} (h : Below w.heap.size w w') : Mv F F w w' := ⟨h.os, h.tape, h.output, h.size, fun k hk _ => h.block k hk, fun _ hf => Or.inl hf⟩
theorem Mv.below {F F' : Nat → Prop} {w0 w w' : World} {B : Nat} (h0 : Below B w0 w) (hB : B ≤ w.heap.size) (hF : ∀ k, F k → B ≤ k) (h : Mv F F' w w') : Below B w0 w' :=
  h0.trans ⟨h.os, h.tape, h.output, h.size, fun k hk => h.block k (Nat.lt_of_lt_of_le hk hB) (fun hf => by have := hF k hf; omega)⟩

def vput (f : Nat → Value) (k : Nat) (x : Value) : Nat → Value := fun i => if i = k then x else f i
theorem vput_at (f : Nat → Value) (k : Nat) (x : Value) : vput f k x k = x := if_pos rfl
theorem vput_ne (f : Nat → Value) (k : Nat) (x : Value) {j : Nat} (h : j ≠ k) : vput f k x j = f j := if_neg h
theorem chCells_congr {f g : Nat → Value} : ∀ (cs : List Chg) (i : Nat), (∀ j, i ≤ j → j < i + cs.length → f j = g j) → chCells f i cs = chCells g i cs
  | [], _, _ => rfl
  | c :: cs, i, h => by
    show f i :: _ :: chCells f (i + 1) cs = g i :: _ :: chCells g (i + 1) cs
    rw [h i (Nat.le_refl _) (by simp), chCells_congr cs (i + 1) (fun j h1 h2 => h j (by omega) (by simp only [List.length_cons]; omega))]
theorem chCells_snoc (f : Nat → Value) (c : Chg) : ∀ (cs : List Chg) (i : Nat), chCells f i (cs ++ [c]) = chCells f i cs ++ [f (i + cs.length), .int .i64 (c.t : Nat)]
  | [], i => rfl
  | d :: cs, i => by
    show f i :: _ :: chCells f (i + 1) (cs ++ [c]) = _
    rw [chCells_snoc f c cs (i + 1)]
    show _ = f i :: _ :: (chCells f (i + 1) cs ++ _)
    rw [List.length_cons, show i + 1 + cs.length = i + (cs.length + 1) by omega]

theorem rows_apart {w : World} {K n s b t' m : Nat} {e : TypeId} {v : Value} {xs : List Value} {f : Nat → Value} (h : w.ownsRow K e s v n xs) (hr : w.rowIs b t' m f) (ht : t' ≠ e) : v.ownBlock ≠ some b := fun e' => by
  rcases h.2 with ⟨rfl, _⟩ | ⟨g, cap, cur, rfl, _, hq, _⟩
  · simp [Value.ownBlock] at e'
  · obtain rfl : g = b := by simpa [Value.ownBlock] using e'
    obtain ⟨c, hc, _⟩ := hr
    rw [hq] at hc
    simp only [Option.some.injEq, Obj.cells.injEq] at hc
    exact ht hc.2.1.symm
theorem rows_apart2 {w : World} {K K' n n' s s' : Nat} {e e' : TypeId} {v v' : Value} {xs xs' : List Value} (h : w.ownsRow K e s v n xs) (h' : w.ownsRow K' e' s' v' n' xs') (hne : e ≠ e') : ∀ b, v.ownBlock = some b → v'.ownBlock ≠ some b := by
  intro b hb hb'
  rcases h.2 with ⟨rfl, _⟩ | ⟨g, cap, cur, rfl, _, hq, _⟩
  · simp [Value.ownBlock] at hb
  · rcases h'.2 with ⟨rfl, _⟩ | ⟨g', cap', cur', rfl, _, hq', _⟩
    · simp [Value.ownBlock] at hb'
    · obtain rfl : g = b := by simpa [Value.ownBlock] using hb
      obtain rfl : g' = g := by simpa [Value.ownBlock] using hb'
      rw [hq] at hq'
      simp only [Option.some.injEq, Obj.cells.injEq] at hq'
      exact hne hq'.2.1

theorem infoCH : (Try.prog.info? 116).map (fun i => (i.zero, i.size, i.bytes)) = some (some (.agg #[.slice none 0 0, .int .i64 0]), 2, 32) := by kernel_rfl
theorem app_ch {w : World} {K n : Nat} {v : Value} {xs : List Value} (h : w.ownsRow K 116 2 v n xs) (y z : Value) (hy : y.oneCell' = true) (hz : z.oneCell' = true) (hn : n ≤ 1099511627776) (hK : K ≤ w.heap.size) :
    ∃ v' w', (Builtin.append_ #[96, 96] 96 #[v, .slice (some ⟨w.heap.size, 0, none⟩) 1 1]).run Try.prog (w.alloc (.cells #[y, z] 116)) = .ok v' w' ∧ w'.ownsRow K 116 2 v' (n + 1) (xs ++ [y, z]) ∧ w.grownBy w' v.ownBlock ∧ (∀ k, v'.ownBlock = some k → v.ownBlock = some k ∨ w.heap.size ≤ k) := by
  obtain ⟨i0, hi, hh⟩ := Option.map_eq_some_iff.1 infoCH
  simp only [Prod.mk.injEq] at hh
  obtain ⟨hz0, hz1, hz2⟩ := hh
  have hnews : ∀ j u, [y, z][j]? = some u → (w.alloc (.cells #[y, z] 116)).cell? ((⟨w.heap.size, 0, none⟩ : Addr).add j) = some u := fun j u hj => by
    match j with
    | 0 => simp at hj; subst hj; simp [Addr.add]
    | 1 => simp at hj; subst hj; simp [Addr.add]
    | j + 2 => simp at hj
  have hml : maxLen = 9223372036854775807 := rfl
  obtain ⟨v', w', h1, h2, h3, _, h5⟩ := run_append_own_at (P := Try.prog) (w.alloc (.cells #[y, z] 116)) K 96 96 116 i0 _ 2 32 Try.underlying96 hi hz0 hz1 hz2 rfl (by decide) v n xs (h.alloc _) ⟨w.heap.size, 0, none⟩ 1 1 [y, z] rfl hnews (fun u hu => by
    rcases List.mem_cons.1 hu with e | hu
    · rw [e]; exact hy
    · rw [List.mem_singleton.1 hu]; exact hz) (by omega) (by omega) (by simp; omega)
  have hsz : (w.alloc (.cells #[y, z] 116)).heap.size = w.heap.size + 1 := by simp
  refine ⟨v', w', h1, h2, ⟨h3.os, h3.tape, h3.output, by have := h3.size; omega, fun b hb hne => (h3.block b (by omega) hne).trans (Below.heap_alloc _ _ _ hb)⟩, fun k e => ?_⟩
  rcases h5 with e5 | e5
  · exact .inl (e5 ▸ e)
  · rw [e5] at e
    exact .inr (by have := Option.some.inj e; omega)

/-- The number of bytes is another one. -/
theorem FileIs.resize {w : World} {B fb : Nat} {m : FM} {rv cv : Value} {av : Nat → Value} (h : FileIs w B fb m rv cv av) (s : Nat) : FileIs (w.setCell ⟨fb, 2, none⟩ (.int .i64 (s : Nat))) B fb { m with sz := s } rv cv av ∧ Mv (FFt fb rv cv av m.chs.length) (FFt fb rv cv av m.chs.length) w (w.setCell ⟨fb, 2, none⟩ (.int .i64 (s : Nat))) := by
  have hset : ∀ b, b ≠ fb → (w.setCell ⟨fb, 2, none⟩ (.int .i64 (s : Nat))).heap[b]? = w.heap[b]? := fun b hb => Below.heap_setCell _ _ _ _ hb
  refine ⟨⟨(h.row.set 2 _).congr (fun i hi => ?_), h.own.on (fun k e => hset k (fun e2 => h.own.apart h.row (by decide) (e2 ▸ e))), rows_keep h.cow (fun k e => hset k (fun e2 => rows_apart h.cow h.row (by decide) (e2 ▸ e))), fun i c hc => (h.aow i c hc).on (fun k e => hset k (fun e2 => (h.aow i c hc).apart h.row (by decide) (e2 ▸ e))), h.ra, h.aa, h.lb⟩, rfl, rfl, rfl, by simp [World.setCell], fun k _ hn => hset k (fun e => hn (.inl e)), fun k hf => .inl hf⟩
  match i, hi with
  | 0, _ => rfl
  | 1, _ => rfl
  | 2, _ => rfl

/-- One change more. -/
theorem FileIs.snoc {w w2 : World} {B fb : Nat} {m : FM} {rv cv : Value} {av : Nat → Value} (h : FileIs w B fb m rv cv av) (hb : Below w.heap.size w w2) (hB : B ≤ w.heap.size) (c : Chg) {nv : Value} (hnv : OwnL w2 B nv c.b) (hfr : ∀ k, nv.ownBlock = some k → w.heap.size ≤ k) (hN : m.chs.length ≤ 1099511627776) :
    ∃ ca cc w3, (Builtin.append_ #[96, 96] 96 #[cv, .slice (some ⟨w2.heap.size, 0, none⟩) 1 1]).run Try.prog (w2.alloc (.cells #[nv, .int .i64 (c.t : Nat)] 116)) = .ok (.slice ca (m.chs.length + 1) cc) w3 ∧ w3.cell? ⟨fb, 1, none⟩ = some cv ∧ w3.frozen? ⟨fb, 1, none⟩ = false ∧
      FileIs (w3.setCell ⟨fb, 1, none⟩ (.slice ca (m.chs.length + 1) cc)) B fb { m with chs := m.chs ++ [c] } rv (.slice ca (m.chs.length + 1) cc) (vput av m.chs.length nv) ∧ Mv (FFt fb rv cv av m.chs.length) (FFt fb rv (.slice ca (m.chs.length + 1) cc) (vput av m.chs.length nv) (m.chs.length + 1)) w (w3.setCell ⟨fb, 1, none⟩ (.slice ca (m.chs.length + 1) cc)) := by
  have h2 := h.on hb
  have hB2 : B ≤ w2.heap.size := Nat.le_trans hB hb.size
  obtain ⟨na, nc, env, _, _, _⟩ := hnv.bl
  obtain ⟨cv', w3, hr, ho, hg, hl⟩ := app_ch h2.cow nv (.int .i64 (c.t : Nat)) (by rw [env]; rfl) rfl hN hB2
  obtain ⟨ca, cc, rfl⟩ : ∃ ca cc, cv' = .slice ca (m.chs.length + 1) cc := by
    rcases ho.2 with ⟨_, h0⟩ | ⟨g, c', cur, e, _⟩
    · omega
    · exact ⟨_, c', e⟩
  have hfc := rows_apart h2.cow h2.row (by decide)
  have row3 : w3.rowIs fb 98 3 (fCell rv cv m.sz) := h2.row.of_block (hg.block fb h2.row.lt (fun e => hfc e.symm))
  have cfree : ∀ v l, OwnL w2 B v l → ∀ k, v.ownBlock = some k → w3.heap[k]? = w2.heap[k]? := fun v l hv k e => hg.block k (hv.lt k e).2 (fun e2 => rows_apart2 h2.cow hv (by decide) k e2.symm e)
  have ffree : ∀ k, k ≠ fb → (w3.setCell ⟨fb, 1, none⟩ (.slice ca (m.chs.length + 1) cc)).heap[k]? = w3.heap[k]? := fun k hk => Below.heap_setCell _ _ _ _ hk
  have keep : ∀ v l, OwnL w2 B v l → OwnL (w3.setCell ⟨fb, 1, none⟩ (.slice ca (m.chs.length + 1) cc)) B v l := fun v l hv =>
    hv.on (fun k e => (ffree k (fun e2 => hv.apart h2.row (by decide) (e2 ▸ e))).trans (cfree v l hv k e))
  have hfc3 := rows_apart ho row3 (by decide)
  have hz3 : (w3.setCell ⟨fb, 1, none⟩ (.slice ca (m.chs.length + 1) cc)).heap.size = w3.heap.size := by simp [World.setCell]
  refine ⟨ca, cc, w3, hr, row3.cell (i := 1) (by decide), row3.frozen 1, ⟨(row3.set 1 _).congr (fun i hi => ?_), keep _ _ h2.own, ?_, fun i d hd => ?_, fun i hi k e e2 => ?_, fun i j hij hj k e e2 => ?_, h.lb⟩, ?_⟩
  · match i, hi with
    | 0, _ => rfl
    | 1, _ => rfl
    | 2, _ => rfl
  · have e1 : chCells (vput av m.chs.length nv) 0 (m.chs ++ [c]) = chCells av 0 m.chs ++ [nv, .int .i64 (c.t : Nat)] := by
      rw [chCells_snoc, Nat.zero_add, vput_at, chCells_congr m.chs 0 (g := av) (fun j _ hj => vput_ne _ _ _ (by omega))]
    show (w3.setCell ⟨fb, 1, none⟩ (.slice ca (m.chs.length + 1) cc)).ownsRow B _ 2 _ (m.chs ++ [c]).length _
    rw [List.length_append, e1]
    exact rows_keep ho (fun k e => ffree k (fun e2 => hfc3 (e2 ▸ e)))
  · have hd : (m.chs ++ [c])[i]? = some d := hd
    by_cases e : i < m.chs.length
    · rw [List.getElem?_append_left e] at hd
      rw [vput_ne _ _ _ (by omega)]
      exact keep _ _ (h2.aow i d hd)
    · have hi : i = m.chs.length := by
        have := (List.getElem?_eq_some_iff.1 hd).1
        simp only [List.length_append, List.length_singleton] at this
        omega
      subst hi
      rw [List.getElem?_append_right (by omega), Nat.sub_self] at hd
      obtain rfl : c = d := by simpa using hd
      rw [vput_at]
      exact keep _ _ hnv
  · have hi : i < (m.chs ++ [c]).length := hi
    rw [List.length_append, List.length_singleton] at hi
    by_cases e3 : i = m.chs.length
    · subst e3
      rw [vput_at] at e2
      have q1 := hfr k e2
      have q2 := (h.own.lt k e).2
      omega
    · rw [vput_ne _ _ _ e3] at e2
      exact h.ra i (by omega) k e e2
  · have hj : j < (m.chs ++ [c]).length := hj
    rw [List.length_append, List.length_singleton] at hj
    rw [vput_ne _ _ _ (by omega)] at e
    by_cases e3 : j = m.chs.length
    · subst e3
      rw [vput_at] at e2
      have q1 := hfr k e2
      have q2 := ((h.aow i _ (List.getElem?_eq_getElem hij)).lt k e).2
      omega
    · rw [vput_ne _ _ _ e3] at e2
      exact h.aa i j hij (by omega) k e e2
  · refine ⟨hg.os.trans hb.os, hg.tape.trans hb.tape, hg.output.trans hb.output, by have := hg.size; have := hb.size; omega, fun k hk hn => (ffree k (fun e => hn (.inl e))).trans ((hg.block k (Nat.lt_of_lt_of_le hk hb.size) (fun e => hn (.inr (.inr (.inl e.symm))))).trans (hb.block k hk)), fun k hf => ?_⟩
    rcases hf with e | e | e | ⟨i, hi, e⟩
    · exact .inl (.inl e)
    · exact .inl (.inr (.inl e))
    · rcases hl k e with q | q
      · exact .inl (.inr (.inr (.inl q)))
      · exact .inr (Nat.le_trans hb.size q)
    · by_cases e3 : i = m.chs.length
      · subst e3
        rw [vput_at] at e
        exact .inr (hfr k e)
      · rw [vput_ne _ _ _ e3] at e
        exact .inl (.inr (.inr (.inr ⟨i, by omega, e⟩)))

/-- What cut does. -/
def cutM (m : FM) (n : Nat) : FM := if n = m.sz then m else { m with chs := m.chs ++ [⟨[], n⟩], sz := n }
set_option maxHeartbeats 1600000 in
theorem cut_any {w : World} {B fb : Nat} {m : FM} {rv cv : Value} {av : Nat → Value} (h : FileIs w B fb m rv cv av) (hB : B ≤ w.heap.size) (hN : m.chs.length ≤ 1099511627776) (n : Nat) :
    Calls Try.prog 57 #[.pointer (some ⟨fb, 0, none⟩), .int .i64 n] w fun e w' => e = .returned (.tuple #[]) ∧ ∃ rv' cv' av', FileIs w' B fb (cutM m n) rv' cv' av' ∧ Mv (FFt fb rv cv av m.chs.length) (FFt fb rv' cv' av' (cutM m n).chs.length) w w' := by
  have c2 : w.cell? ⟨fb, 2, none⟩ = some (.int .i64 (m.sz : Nat)) := h.row.cell (i := 2) (by decide)
  by_cases hn : n = m.sz
  · have e : cutM m n = m := by unfold cutM; rw [if_pos hn]
    rw [e]
    subst hn
    have HF : Hid _ := h
    clear h
    go_enter Try.func57, Try.ntmps57
    go_wp2_with fail
    try simp only [Exit.inBlock, Exit.then]
    refine bodyPost_ret (results_none rfl _ _ _) rfl ?_
    exact ⟨rfl, rv, cv, av, HF.out, Mv.refl _ _⟩
  · have e : cutM m n = { m with chs := m.chs ++ [⟨[], n⟩], sz := n } := by unfold cutM; rw [if_neg hn]
    rw [e]
    have hne : ((n : Int) == ((m.sz : Nat) : Int)) = false := beq_eq_false_iff_ne.2 (by omega)
    have f2 := h.row.frozen 2
    obtain ⟨h1, mv1⟩ := h.resize n
    have k1 : (w.setCell ⟨fb, 2, none⟩ (.int .i64 (n : Nat))).cell? ⟨fb, 1, none⟩ = some cv := h1.row.cell (i := 1) (by decide)
    have hz1 : (w.setCell ⟨fb, 2, none⟩ (.int .i64 (n : Nat))).heap.size = w.heap.size := by simp [World.setCell]
    obtain ⟨ca, cc, w3, hr, p1, p2, h3, mv3⟩ := h1.snoc (Below.refl _ _) (by omega) ⟨[], n⟩ (nv := .slice none 0 0) (own_nil _ _ _) (fun k e => by simp [Value.ownBlock] at e) hN
    have HR : Hid _ := hr
    have HF : Hid _ := h3
    have HM : Hid _ := mv1.trans mv3
    rw [hz1] at HR
    clear h h1 mv1 h3 mv3 hr hz1
    go_enter Try.func57, Try.ntmps57
    go_wp2_with (at_builtin; refine wpList_append_eq rfl _ _ 96 rfl _ _ _ (by rfl) (by rfl) HR.out ?_)
    go_end0
    exact ⟨rfl, _, _, _, HF.out, HM.out⟩
end Go.Proofs.Ytbnlgohaaadgeaa

/- Package disk: bytes appended to a file: add. -/
namespace Go.Proofs.Ytbnlgohaaadgeaa
open Go.RowKit
set_option maxRecDepth 100000
set_option maxRecDepth 100000

theorem rows_row {w : World} {K s g n cap : Nat} {e : TypeId} {xs : List Value} (h : w.ownsRow K e s (.slice (some ⟨g, 0, none⟩) n cap) n xs) : ∃ F, w.rowIs g e (cap * s) F ∧ n ≤ cap ∧ ∀ j, j < n * s → xs[j]? = some (F j) := by
  rcases h.2 with ⟨e', _⟩ | ⟨g', cap', cur, e', _, hq, hc, _, hcs, htake⟩
  · cases e'
  · cases e'
    refine ⟨fun j => (cur[j]?).getD undef, ⟨cur, hq, hcs, fun i hi => ?_⟩, hc, fun j hj => ?_⟩
    · show cur[i]? = some ((cur[i]?).getD undef)
      rw [Array.getElem?_eq_getElem (by omega)]; rfl
    · have hm : n * s ≤ cap * s := Nat.mul_le_mul_right s hc
      show _ = some ((cur[j]?).getD undef)
      rw [← htake, List.getElem?_take, if_pos hj, Array.getElem?_toList, Array.getElem?_eq_getElem (by omega)]
      rfl
theorem chCells_set (f : Nat → Value) (v : Value) (c' : Chg) : ∀ (cs : List Chg) (i k : Nat) (c : Chg), cs[k]? = some c → c'.t = c.t → chCells (vput f (i + k) v) i (cs.set k c') = (chCells f i cs).set (k * 2) v
  | [], i, k, c, h, _ => by simp at h
  | d :: cs, i, 0, c, h, ht => by
    have : d = c := by simpa using h
    subst this
    show vput f (i + 0) v i :: .int .i64 (c'.t : Nat) :: chCells (vput f (i + 0) v) (i + 1) cs = v :: .int .i64 (d.t : Nat) :: chCells f (i + 1) cs
    rw [Nat.add_zero, vput_at, ht, chCells_congr cs (i + 1) (g := f) (fun j h1 _ => vput_ne _ _ _ (by omega))]
  | d :: cs, i, k + 1, c, h, ht => by
    have h' : cs[k]? = some c := by simpa using h
    have q := chCells_set f v c' cs (i + 1) k c h' ht
    rw [show i + 1 + k = i + (k + 1) by omega] at q
    show vput f (i + (k + 1)) v i :: .int .i64 (d.t : Nat) :: chCells (vput f (i + (k + 1)) v) (i + 1) (cs.set k c') = _
    rw [vput_ne _ _ _ (by omega), q, show (k + 1) * 2 = k * 2 + 1 + 1 by omega]
    rfl

/-- The row of change i has grown. -/
theorem FileIs.grow {w w1 : World} {B fb : Nat} {m : FM} {rv cv : Value} {av : Nat → Value} (h : FileIs w B fb m rv cv av) {i : Nat} {c : Chg} (hc : m.chs[i]? = some c) {g cc : Nat} (ecv : cv = .slice (some ⟨g, 0, none⟩) m.chs.length cc) {v' : Value} {l2 : List Nat} (hg : w.grownBy w1 (av i).ownBlock) (ho : OwnL w1 B v' (c.b ++ l2)) (hl : (v'.ownBlock = (av i).ownBlock ∨ v'.ownBlock = some w.heap.size)) :
    FileIs (w1.setCell ⟨g, i * 2, none⟩ v') B fb { m with chs := m.chs.set i ⟨c.b ++ l2, c.t⟩ } rv cv (vput av i v') ∧ Mv (FFt fb rv cv av m.chs.length) (FFt fb rv cv (vput av i v') m.chs.length) w (w1.setCell ⟨g, i * 2, none⟩ v') := by
  have hi := (List.getElem?_eq_some_iff.1 hc).1
  have hai := h.aow i c hc
  have hcow := h.cow
  rw [ecv] at hcow
  have hcb : cv.ownBlock = some g := by rw [ecv]; rfl
  have hgl := (rows_lt h.cow g hcb).2
  -- blocks that are neither the change's row nor the list of changes
  have k1 : ∀ k, k < w.heap.size → (av i).ownBlock ≠ some k → w1.heap[k]? = w.heap[k]? := fun k hk hn => hg.block k hk (fun e => hn e.symm)
  have k2 : ∀ k, k ≠ g → (w1.setCell ⟨g, i * 2, none⟩ v').heap[k]? = w1.heap[k]? := fun k hk => Below.heap_setCell _ _ _ _ hk
  have gne : (av i).ownBlock ≠ some g := fun e => rows_apart2 h.cow hai (by decide) g hcb e
  have fne : fb ≠ g := fun e => rows_apart h.cow h.row (by decide) (e ▸ hcb)
  have fna : (av i).ownBlock ≠ some fb := hai.apart h.row (by decide)
  have hcow1 : w1.ownsRow B 116 2 (.slice (some ⟨g, 0, none⟩) m.chs.length cc) m.chs.length (chCells av 0 m.chs) := rows_keep hcow (fun k e => by
    have : g = k := by simpa [Value.ownBlock] using e
    subst this
    exact k1 g hgl gne)
  have hst := (World.ownsRow.stored hcow1 (i * 2) v').1
  have other : ∀ v l, OwnL w B v l → (∀ k, v.ownBlock = some k → (av i).ownBlock ≠ some k) → OwnL (w1.setCell ⟨g, i * 2, none⟩ v') B v l := fun v l hv hn =>
    hv.on (fun k e => (k2 k (fun e2 => rows_apart2 h.cow hv (by decide) g hcb (e2 ▸ e))).trans (k1 k (hv.lt k e).2 (hn k e)))
  have hv1 : OwnL (w1.setCell ⟨g, i * 2, none⟩ v') B v' (c.b ++ l2) := ho.on (fun k e => k2 k (fun e2 => rows_apart2 hcow1 ho (by decide) g rfl (e2 ▸ e)))
  have lies : ∀ k, v'.ownBlock = some k → (av i).ownBlock = some k ∨ w.heap.size ≤ k := fun k e => by
    rcases hl with q | q
    · exact .inl (q ▸ e)
    · rw [q] at e; exact .inr (by have := Option.some.inj e; omega)
  refine ⟨⟨?_, other _ _ h.own (fun k e e2 => h.ra i hi k e e2), ?_, fun j d hd => ?_, fun j hj k e e2 => ?_, fun a b hab hb0 k e e2 => ?_, h.lb⟩, ?_⟩
  · exact (h.row.of_block (w' := w1) (k1 fb h.row.lt fna)).of_block (k2 fb fne)
  · show (w1.setCell ⟨g, i * 2, none⟩ v').ownsRow B _ 2 cv (m.chs.set i ⟨c.b ++ l2, c.t⟩).length _
    have q := chCells_set av v' ⟨c.b ++ l2, c.t⟩ m.chs 0 i c hc rfl
    rw [Nat.zero_add] at q
    rw [List.length_set, q, ecv]
    exact hst
  · have hd : (m.chs.set i ⟨c.b ++ l2, c.t⟩)[j]? = some d := hd
    rw [List.getElem?_set] at hd
    by_cases e : i = j
    · subst e
      rw [if_pos rfl, if_pos hi] at hd
      obtain rfl := Option.some.inj hd
      rw [vput_at]
      exact hv1
    · rw [if_neg e] at hd
      rw [vput_ne _ _ _ (fun e2 => e e2.symm)]
      refine other _ _ (h.aow j d hd) (fun k e1 e2 => ?_)
      have hj := (List.getElem?_eq_some_iff.1 hd).1
      rcases Nat.lt_or_gt_of_ne e with l | l
      · exact h.aa i j l hj k e2 e1
      · exact h.aa j i l hi k e1 e2
  · have hj : j < (m.chs.set i ⟨c.b ++ l2, c.t⟩).length := hj
    rw [List.length_set] at hj
    by_cases e3 : j = i
    · subst e3
      rw [vput_at] at e2
      rcases lies k e2 with q | q
      · exact h.ra j hi k e q
      · have := (h.own.lt k e).2; omega
    · rw [vput_ne _ _ _ e3] at e2
      exact h.ra j hj k e e2
  · have hb : b < m.chs.length := by
      have q : b < (m.chs.set i ⟨c.b ++ l2, c.t⟩).length := hb0
      rwa [List.length_set] at q
    clear hb0
    by_cases ea : a = i
    · subst ea
      rw [vput_at] at e
      rw [vput_ne _ _ _ (by omega)] at e2
      rcases lies k e with q | q
      · exact h.aa a b hab hb k q e2
      · have := ((h.aow b _ (List.getElem?_eq_getElem hb)).lt k e2).2; omega
    · rw [vput_ne _ _ _ ea] at e
      by_cases eb : b = i
      · subst eb
        rw [vput_at] at e2
        rcases lies k e2 with q | q
        · exact h.aa a b hab hb k e q
        · have := ((h.aow a _ (List.getElem?_eq_getElem (by omega))).lt k e).2; omega
      · rw [vput_ne _ _ _ eb] at e2
        exact h.aa a b hab hb k e e2
  · refine ⟨hg.os, hg.tape, hg.output, by have := hg.size; simpa [World.setCell] using this, fun k hk hn => (k2 k (fun e => hn (.inr (.inr (.inl (e ▸ hcb)))))).trans (k1 k hk (fun e => hn (.inr (.inr (.inr ⟨i, hi, e⟩))))), fun k hf => ?_⟩
    rcases hf with e | e | e | ⟨j, hj, e⟩
    · exact .inl (.inl e)
    · exact .inl (.inr (.inl e))
    · exact .inl (.inr (.inr (.inl e)))
    · by_cases e3 : j = i
      · subst e3
        rw [vput_at] at e
        rcases lies k e with q | q
        · exact .inl (.inr (.inr (.inr ⟨j, hi, q⟩)))
        · exact .inr q
      · rw [vput_ne _ _ _ e3] at e
        exact .inl (.inr (.inr (.inr ⟨j, hj, e⟩)))

theorem ownL_row {w : World} {g : Nat} {l : List Nat} (hr : w.rowIs g 5 l.length (fun j => .int .u8 ((l.getD j 0 : Nat) : Int))) {B : Nat} (hB : B ≤ g) (hl : l.length ≤ 140737488355328) : OwnL w B (.slice (some ⟨g, 0, none⟩) l.length l.length) l := by
  obtain ⟨cs, hcs, hsz, hat⟩ := hr
  have hml : maxLen = 9223372036854775807 := rfl
  refine ⟨by rw [length_cellsOf]; omega, .inr ⟨g, l.length, cs, rfl, hB, hcs, Nat.le_refl _, by omega, by omega, ?_⟩⟩
  apply List.ext_getElem?
  intro j
  rw [List.getElem?_take]
  by_cases hj : j < l.length
  · rw [if_pos (by omega), get_cellsOf hj]
    have := hat j hj
    simpa using this
  · rw [if_neg (by omega), List.getElem?_eq_none (by rw [length_cellsOf]; omega)]
/-- append in a region that draws, by its run. -/
theorem step_apps2 {P : Program} {w w' : World} {ops : Array Oper} {o : Oper} {a : Act} {K : Act → World → Prop} {Q : Exit → Act → World → Prop} {E : Prop} (hgd : o.guard = none) (s x : Operand) (t : TypeId)
    (ho : o.op = .call { callee := .builtin .append, args := #[s, x], argTypes := #[t, t] }) (v u v' : Value) (hs : a.eval s = v) (hx : a.eval x = u)
    (hrun : (Builtin.append_ #[t, t] o.type #[v, u]).run P w = .ok v' w') (h : K (a.put o.dst v') w') : if Region.wanted o (yielded ops a.tmps) = true then Oper.wp P o a w K Q else E := by
  have hw : Region.wanted o (yielded ops a.tmps) = true := by simp [Region.wanted, hgd]
  rw [if_pos hw]
  unfold Oper.wp
  simp [execOp, ho, resolve, invoke, builtin, hs, hx, hrun, Result.andThen]
  exact h
/-- What add does to the changes. -/
theorem len_le_sumB {c : Chg} : ∀ {cs : List Chg} {i : Nat}, cs[i]? = some c → c.b.length ≤ sumB cs
  | [], i, h => by simp at h
  | d :: cs, 0, h => by
    have : d = c := by simpa using h
    subst this
    show d.b.length ≤ d.b.length + sumB cs
    omega
  | d :: cs, i + 1, h => by
    have := len_le_sumB (cs := cs) (i := i) (by simpa using h)
    show c.b.length ≤ d.b.length + sumB cs
    omega
def addC (cs : List Chg) (l2 : List Nat) : List Chg := match cs[cs.length - 1]? with
  | some c => if c.b.length = 0 then cs ++ [⟨l2, 0⟩] else cs.set (cs.length - 1) ⟨c.b ++ l2, c.t⟩
  | none => cs ++ [⟨l2, 0⟩]
def addM (m : FM) (l2 : List Nat) : FM := if l2.length = 0 then m else { m with chs := addC m.chs l2, sz := m.sz + l2.length }

set_option maxHeartbeats 3200000 in
theorem add_any {w : World} {B fb : Nat} {m : FM} {rv cv : Value} {av : Nat → Value} (h : FileIs w B fb m rv cv av) (hB : B ≤ w.heap.size) (hN : m.chs.length ≤ 1099511627776) (hS : m.sz ≤ 1099511627776) (hL : sumB m.chs ≤ 1099511627776) (a : Option Addr) (c : Nat) (l2 : List Nat) (hl2 : l2.length ≤ 1099511627776) (hb : BL w a l2) (ha : a = none → l2.length = 0 ∧ c = 0) (hfree : ∀ ad, a = some ad → 0 < l2.length → ad.block ≠ fb) :
    Calls Try.prog 56 #[.pointer (some ⟨fb, 0, none⟩), .slice a l2.length c] w fun e w' => e = .returned (.tuple #[]) ∧ ∃ rv' cv' av', FileIs w' B fb (addM m l2) rv' cv' av' ∧ Mv (FFt fb rv cv av m.chs.length) (FFt fb rv' cv' av' (addM m l2).chs.length) w w' := by
  have c2 : w.cell? ⟨fb, 2, none⟩ = some (.int .i64 (m.sz : Nat)) := h.row.cell (i := 2) (by decide)
  have c1 : w.cell? ⟨fb, 1, none⟩ = some cv := h.row.cell (i := 1) (by decide)
  by_cases h0 : l2.length = 0
  · have e : addM m l2 = m := by unfold addM; rw [if_pos h0]
    rw [e, h0]
    have HF : Hid _ := h
    clear h hb
    go_enter Try.func56, Try.ntmps56
    go_wp2_with fail
    try simp only [Exit.inBlock, Exit.then]
    refine bodyPost_ret (results_none rfl _ _ _) rfl ?_
    exact ⟨rfl, rv, cv, av, HF.out, Mv.refl _ _⟩
  · have e : addM m l2 = { m with chs := addC m.chs l2, sz := m.sz + l2.length } := by unfold addM; rw [if_neg h0]
    rw [e]
    have hne : ((l2.length : Int) == 0) = false := beq_eq_false_iff_ne.2 (by omega)
    have f2 := h.row.frozen 2
    obtain ⟨S1, hS1, hS2⟩ : ∃ S1 : Nat, ((m.sz : Nat) : Int) + (l2.length : Int) = (S1 : Int) ∧ S1 = m.sz + l2.length := ⟨m.sz + l2.length, by omega, rfl⟩
    have hwS : IntKind.i64.wrap (S1 : Int) = (S1 : Int) := by rw [IntKind.wrap_i64]; omega
    obtain ⟨h1, mv1⟩ := h.resize S1
    have k1 : (w.setCell ⟨fb, 2, none⟩ (.int .i64 (S1 : Nat))).cell? ⟨fb, 1, none⟩ = some cv := h1.row.cell (i := 1) (by decide)
    have hz1 : (w.setCell ⟨fb, 2, none⟩ (.int .i64 (S1 : Nat))).heap.size = w.heap.size := by simp [World.setCell]
    have hb1 : BL (w.setCell ⟨fb, 2, none⟩ (.int .i64 (S1 : Nat))) a l2 := fun j hj => by
      obtain ⟨b', o', e', hc'⟩ := hb j hj
      exact ⟨b', o', e', by rw [World.cell?_of_block (a := ⟨b', o' + j, none⟩) (Below.heap_setCell _ _ _ _ (hfree _ e' (Nat.lt_of_le_of_lt (Nat.zero_le _) hj)))]; exact hc'⟩
    rw [← hS2]
    clear hS2 hb hfree h
    obtain ⟨cva, cvc, ecv⟩ : ∃ a c, cv = .slice a m.chs.length c := by
      rcases h1.cow.2 with ⟨e, h0⟩ | ⟨g, cc, cur, e, _⟩
      · exact ⟨none, 0, by rw [e]; have h0 : m.chs.length = 0 := h0; rw [h0]⟩
      · exact ⟨_, cc, e⟩
    have HNW : Hid (∀ W, Below (w.setCell ⟨fb, 2, none⟩ (.int .i64 (S1 : Nat))).heap.size (w.setCell ⟨fb, 2, none⟩ (.int .i64 (S1 : Nat))) W → Calls Try.prog 65 #[.slice a l2.length c] W fun e w' => ∃ g ca cc w3, e = .returned (.slice (some ⟨g, 0, none⟩) l2.length l2.length) ∧ w'.cell? ⟨fb, 1, none⟩ = some cv ∧ (Builtin.append_ #[96, 96] 96 #[cv, .slice (some ⟨w'.heap.size, 0, none⟩) 1 1]).run Try.prog (w'.alloc (.cells #[.slice (some ⟨g, 0, none⟩) l2.length l2.length, .int .i64 0] 116)) = .ok (.slice ca (m.chs.length + 1) cc) w3 ∧ w3.cell? ⟨fb, 1, none⟩ = some cv ∧ w3.frozen? ⟨fb, 1, none⟩ = false ∧
        (∃ rv' cv' av', FileIs (w3.setCell ⟨fb, 1, none⟩ (.slice ca (m.chs.length + 1) cc)) B fb { m with chs := m.chs ++ [⟨l2, 0⟩], sz := S1 } rv' cv' av' ∧ Mv (FFt fb rv cv av m.chs.length) (FFt fb rv' cv' av' (m.chs ++ [(⟨l2, 0⟩ : Chg)]).length) w (w3.setCell ⟨fb, 1, none⟩ (.slice ca (m.chs.length + 1) cc)))) := fun W hbW => by
      refine (copied_any a l2.length c _ W (by omega) (hb1.on hbW)).mono fun e w' ⟨he, hs, hz, hr⟩ => ?_
      have hbw := below_of_since hs
      have hb2 := hbW.trans (hbw.mono hbW.size)
      obtain ⟨ca, cc, w3, hrun, p1, p2, hF, hM⟩ := h1.snoc hb2 (by omega) ⟨l2, 0⟩ (nv := .slice (some ⟨W.heap.size, 0, none⟩) l2.length l2.length) (ownL_row hr (Nat.le_trans (by omega) hbW.size) (by omega)) (fun k e => by
        have : W.heap.size = k := by simpa [Value.ownBlock] using e
        rw [← this]; exact hbW.size) hN
      refine ⟨W.heap.size, ca, cc, w3, he, cel_on hb2 k1, hrun, p1, p2, _, _, _, hF, ?_⟩
      rw [List.length_append]
      exact mv1.trans hM
    subst ecv
    by_cases hlen : m.chs.length = 0
    · have eC : addC m.chs l2 = m.chs ++ [⟨l2, 0⟩] := by
        unfold addC
        have : m.chs = [] := List.eq_nil_of_length_eq_zero hlen
        rw [this]; rfl
      rw [eC]
      have HBQ : Hid (Below (w.setCell ⟨fb, 2, none⟩ (.int .i64 (S1 : Nat))).heap.size (w.setCell ⟨fb, 2, none⟩ (.int .i64 (S1 : Nat))) (w.setCell ⟨fb, 2, none⟩ (.int .i64 (S1 : Nat)))) := Below.refl _ _
      clear h1 mv1 hb1 eC
      have hL1 : ((m.chs.length : Nat) : Int) - 1 = -1 := by omega
      generalize m.chs ++ [(⟨l2, 0⟩ : Chg)] = CS at *
      generalize m.chs.length = L at *
      clear hlen hN
      go_enter Try.func56, Try.ntmps56
      go_upto_region 5 with fail
      generalize w.setCell ⟨fb, 2, none⟩ (.int .i64 (S1 : Nat)) = W1 at *
      have k1d : W1.drew.cell? ⟨fb, 1, none⟩ = some (.slice cva L cvc) := k1
      go_region_law (first
        | (refine step_apps2 (by rfl) _ _ 96 (by rfl) _ _ _ (by rfl) (by rfl) HR.out ?_)
        | (go_simp; go_at_call 65; refine (HNW.out _ (HBQ.out.drew)).mono ?_; rintro e w2 ⟨g, ca, cc, w3, rfl, q1, hrun, p1, p2, hFM⟩; have q2 : ∀ o, (w2.alloc o).cell? ⟨fb, 1, none⟩ = some (.slice cva L cvc) := (fun o => by rw [World.cell?_alloc_some _ _ _ (by rw [q1]; rfl)]; exact q1); have HR : Hid _ := hrun; clear hrun))
      all_goals
        go_end0
        exact ⟨rfl, hFM⟩
    · have hi : m.chs.length - 1 < m.chs.length := by omega
      obtain ⟨ch, hch⟩ : ∃ ch, m.chs[m.chs.length - 1]? = some ch := ⟨_, List.getElem?_eq_getElem hi⟩
      obtain ⟨g, cc, ba, bc, ecv, hcc, eav, hbc, hbl, hbn, x0, x1⟩ := h1.chg hch
      have hca : cva = some ⟨g, 0, none⟩ := by have := ecv; simp at this; exact this.1
      have hcv : cvc = cc := by have := ecv; simp at this; exact this.2
      subst hca hcv
      obtain ⟨i, hI⟩ : ∃ i, m.chs.length - 1 = i := ⟨_, rfl⟩
      have hiL : (i : Int) < ((m.chs.length : Nat) : Int) := by omega
      have hL1 : ((m.chs.length : Nat) : Int) - 1 = (i : Int) := by omega
      have hi0 : (0 : Int) ≤ (i : Int) := by omega
      have hwi : wrap64 (i : Int) = (i : Int) := by unfold wrap64; omega
      rw [hI] at hch eav x0 x1
      have hi' : i < m.chs.length := by omega
      by_cases hcut : ch.b.length = 0
      · have eC : addC m.chs l2 = m.chs ++ [⟨l2, 0⟩] := by
          unfold addC
          rw [hI, hch]
          exact if_pos hcut
        rw [eC]
        have HBQ0 : Hid (Below (w.setCell ⟨fb, 2, none⟩ (.int .i64 (S1 : Nat))).heap.size (w.setCell ⟨fb, 2, none⟩ (.int .i64 (S1 : Nat))) (w.setCell ⟨fb, 2, none⟩ (.int .i64 (S1 : Nat)))) := Below.refl _ _
        rw [hcut] at x0
        clear h1 mv1 hb1 eC ecv eav hbl hbn
        generalize m.chs ++ [(⟨l2, 0⟩ : Chg)] = CS at *
        generalize m.chs.length = L at *
        clear hlen hN hI hi hch
        go_enter Try.func56, Try.ntmps56
        go_upto_region 5 with (go_at_call 69; refine (isCut_any _ 0 _ _ _).mono ?_; rintro e wq ⟨rfl, hbq⟩)
        have HBQ : Hid (Below (w.setCell ⟨fb, 2, none⟩ (.int .i64 (S1 : Nat))).heap.size (w.setCell ⟨fb, 2, none⟩ (.int .i64 (S1 : Nat))) wq) := hbq
        have k2 : wq.cell? ⟨fb, 1, none⟩ = some (.slice (some ⟨g, 0, none⟩) L cvc) := cel_on hbq k1
        clear hbq
        generalize w.setCell ⟨fb, 2, none⟩ (.int .i64 (S1 : Nat)) = W1 at *
        have k2d : wq.drew.cell? ⟨fb, 1, none⟩ = some (.slice (some ⟨g, 0, none⟩) L cvc) := k2
        clear x0 x1 k1
        go_region_law (first
          | (refine step_apps2 (by rfl) _ _ 96 (by rfl) _ _ _ (by rfl) (by rfl) HR.out ?_)
          | (go_simp; go_at_call 65; refine (HNW.out _ (HBQ.out.drew)).mono ?_; rintro e w2 ⟨g, ca, cc, w3, rfl, q1, hrun, p1, p2, hFM⟩; have q2 : ∀ o, (w2.alloc o).cell? ⟨fb, 1, none⟩ = some _ := (fun o => by rw [World.cell?_alloc_some _ _ _ (by rw [q1]; rfl)]; exact q1); have HR : Hid _ := hrun; clear hrun))
        all_goals
          go_end0
          exact ⟨rfl, hFM⟩
      · have eC : addC m.chs l2 = m.chs.set i ⟨ch.b ++ l2, ch.t⟩ := by
          unfold addC
          rw [hI, hch]
          exact if_neg hcut
        rw [eC]
        have hL2 : ch.b.length ≤ 1099511627776 := Nat.le_trans (len_le_sumB hch) hL
        have HC : Hid (∀ W, Below (w.setCell ⟨fb, 2, none⟩ (.int .i64 (S1 : Nat))).heap.size (w.setCell ⟨fb, 2, none⟩ (.int .i64 (S1 : Nat))) W → Calls Try.prog 70 #[.pointer (some ⟨g, i * 2, none⟩), .slice a l2.length c] W fun e w' => e = .returned (.tuple #[]) ∧ ∃ rv' cv' av', FileIs w' B fb { m with chs := m.chs.set i ⟨ch.b ++ l2, ch.t⟩, sz := S1 } rv' cv' av' ∧ Mv (FFt fb rv (.slice (some ⟨g, 0, none⟩) m.chs.length cvc) av m.chs.length) (FFt fb rv' cv' av' (m.chs.set i ⟨ch.b ++ l2, ch.t⟩).length) w w') := fun W hbW => by
          have h2 := h1.on hbW
          obtain ⟨F, hF1, hF2, hF3⟩ := rows_row h2.cow
          have hz : B ≤ W.heap.size := Nat.le_trans (by omega) hbW.size
          have hav : F (i * 2) = av i := by
            have q := hF3 (i * 2) (Nat.mul_lt_mul_of_pos_right hi' (by decide))
            have q2 := (chCells_at av m.chs 0 i ch hch).1
            rw [Nat.zero_add] at q2
            exact (Option.some.inj (q2.symm.trans q)).symm
          refine (extend_any (po := i * 2) hF1 (Nat.mul_lt_mul_of_pos_right (Nat.lt_of_lt_of_le hi' hF2) (by decide)) (by decide) hav (h2.aow i ch hch) a c l2 (hb1.on hbW) ha (by omega) hz).mono ?_
          rintro e w' ⟨he, v', w1, rfl, hg, ho, hr1, hl⟩
          obtain ⟨hFI, hMv⟩ := h2.grow hch rfl hg ho hl
          refine ⟨he, _, _, _, hFI, ?_⟩
          rw [List.length_set]
          exact mv1.trans ((Mv.of_below hbW).trans hMv)
        have HBQ0 : Hid (Below (w.setCell ⟨fb, 2, none⟩ (.int .i64 (S1 : Nat))).heap.size (w.setCell ⟨fb, 2, none⟩ (.int .i64 (S1 : Nat))) (w.setCell ⟨fb, 2, none⟩ (.int .i64 (S1 : Nat)))) := Below.refl _ _
        have hcd : decide (ch.b.length = 0) = false := decide_eq_false hcut
        clear h1 mv1 hb1 eC ecv eav hbl hbn HNW
        generalize m.chs.set i ⟨ch.b ++ l2, ch.t⟩ = CS at *
        generalize m.chs.length = L at *
        clear hlen hN hI hi hch
        generalize ch.b.length = CL at *
        generalize ch.t = CT at *
        clear hcut
        go_enter Try.func56, Try.ntmps56
        go_wp2_with (first
          | (go_at_call 69; refine (isCut_any _ CL _ _ _).mono ?_; rintro e wq ⟨rfl, hbq⟩; have HBQ : Hid (Below (w.setCell ⟨fb, 2, none⟩ (.int .i64 (S1 : Nat))).heap.size (w.setCell ⟨fb, 2, none⟩ (.int .i64 (S1 : Nat))) wq) := hbq; have k2 : wq.cell? ⟨fb, 1, none⟩ = some (.slice (some ⟨g, 0, none⟩) L cvc) := cel_on hbq k1; clear hbq)
          | (go_at_call 70; refine (HC.out _ HBQ.out).mono ?_; rintro e w2 ⟨rfl, hFM⟩))
        all_goals
          refine bodyPost_ret (results_none rfl _ _ _) rfl ?_
          exact ⟨rfl, hFM⟩
end Go.Proofs.Ytbnlgohaaadgeaa

/- Package disk: what is seen of a file is made safe: makeSafe. -/
namespace Go.Proofs.Ytbnlgohaaadgeaa
open Go.RowKit
set_option maxRecDepth 100000
set_option maxRecDepth 100000

/-- clear of a list of changes, and its first none. -/
theorem clear_ch {w : World} {B n : Nat} {v : Value} {xs : List Value} (h : w.ownsRow B 116 2 v n xs) :
    ∃ w1 ca cc, v = .slice ca n cc ∧ ((ca = none ∧ cc = 0 ∧ n = 0) ∨ ∃ g, ca = some ⟨g, 0, none⟩) ∧ (∀ ty, (Builtin.clear_ #[96] ty #[v]).run Try.prog w = .ok (.tuple #[]) w1) ∧ w1.ownsRow B 116 2 (.slice ca 0 cc) 0 [] ∧ w1.os = w.os ∧ w1.tape = w.tape ∧ w1.output = w.output ∧ w1.heap.size = w.heap.size ∧ ∀ k, v.ownBlock ≠ some k → w1.heap[k]? = w.heap[k]? := by
  rcases h.2 with ⟨e, h0⟩ | ⟨g, cap, cur, e, hB, hq, hc, hm, hcs, ht⟩
  · refine ⟨w, none, 0, by rw [e, h0], .inl ⟨rfl, rfl, h0⟩, fun ty => ?_, ⟨rfl, .inl ⟨rfl, rfl⟩⟩, rfl, rfl, rfl, rfl, fun _ _ => rfl⟩
    rw [e]
    simp [Builtin.clear_, run_underlying Try.underlying96]
  · by_cases h0 : n = 0
    · subst h0
      refine ⟨w, _, cap, e, Or.inr ⟨g, rfl⟩, fun ty => ?_, ⟨rfl, .inr ⟨g, cap, cur, rfl, hB, hq, hc, hm, hcs, by simp⟩⟩, rfl, rfl, rfl, rfl, fun _ _ => rfl⟩
      rw [e]
      simp [Builtin.clear_, run_underlying Try.underlying96]
    · have hz : ∀ w, (zeroValue 116).run Try.prog w = .ok (.agg #[.slice none 0 0, .int .i64 0]) w := fun w => by kernel_rfl
      obtain ⟨vs, hvs⟩ : ∃ vs, vs = (Builtin.zeroCells (Value.agg #[.slice none 0 0, .int .i64 0]).cells n).toList := ⟨_, rfl⟩
      have hcl : (Value.agg #[.slice none 0 0, .int .i64 0]).cells = #[.slice none 0 0, .int .i64 0] := by rfl
      have hlen : vs.length = n * 2 := by rw [hvs, hcl]; simp [Builtin.zeroCells]
      have hone : ∀ v ∈ vs, v.oneCell' = true := fun v hv => by
        rw [hvs, hcl] at hv
        simp only [Builtin.zeroCells, Array.toList_map, List.mem_map] at hv
        obtain ⟨i, _, rfl⟩ := hv
        have : i % 2 < 2 := Nat.mod_lt _ (by decide)
        show ((#[.slice none 0 0, .int .i64 0] : Array Value)[i % 2]!).oneCell' = true
        generalize i % 2 = k at *
        match k, this with
        | 0, _ => rfl
        | 1, _ => rfl
      have hle : n * 2 ≤ cap * 2 := Nat.mul_le_mul_right 2 hc
      have hst := run_storeCells_at (P := Try.prog) g 0 116 vs 0 cur w hq (by rw [hlen, hcs]; omega) hone
      refine ⟨w.setRow g (cur.toList.take (0 + 0) ++ vs ++ cur.toList.drop (0 + 0 + vs.length)).toArray, _, cap, e, Or.inr ⟨g, rfl⟩, fun ty => ?_, ⟨rfl, .inr ⟨g, cap, _, rfl, hB, setRow_heap w g cur _ _ _ hq, Nat.zero_le _, hm, ?_, by simp⟩⟩, rfl, rfl, rfl, size_setRow _ _ _, fun k hk => setRow_other w g k _ (fun e2 => hk (by rw [e, e2]; rfl))⟩
      · rw [e]
        obtain ⟨m, rfl⟩ : ∃ m, n = m + 1 := ⟨n - 1, by omega⟩
        rw [hvs] at hst ⊢
        simp [Builtin.clear_, run_underlying Try.underlying96, hz, hst]
      · simp [hlen]; omega

/-- A change carried out on the safe bytes. -/
theorem FileIs.safe {w w' : World} {B fb : Nat} {m : FM} {rv cv : Value} {av : Nat → Value} (h : FileIs w B fb m rv cv av) {v' : Value} {l : List Nat} (hO : Onto w w' B fb 0 3 98 (fCell rv cv m.sz) rv v' l) :
    FileIs w' B fb { m with safe := l } v' cv av ∧ Mv (FFt fb rv cv av m.chs.length) (FFt fb v' cv av m.chs.length) w w' := by
  have hk : ∀ k, k < w.heap.size → k ≠ fb → rv.ownBlock ≠ some k → w'.heap[k]? = w.heap[k]? := hO.block
  refine ⟨⟨hO.row.congr (fun i hi => ?_), hO.own, rows_keep h.cow (fun k e => hk k (rows_lt h.cow k e).2 (fun e2 => rows_apart h.cow h.row (by decide) (e2 ▸ e)) (fun e2 => rows_apart2 h.cow h.own (by decide) k e e2)), fun i c hc => (h.aow i c hc).on (fun k e => hk k ((h.aow i c hc).lt k e).2 (fun e2 => (h.aow i c hc).apart h.row (by decide) (e2 ▸ e)) (fun e2 => h.ra i (List.getElem?_eq_some_iff.1 hc).1 k e2 e)), fun i hi k e e2 => ?_, h.aa, h.lb⟩, hO.os, hO.tape, hO.output, hO.size, fun k hk1 hn => hk k hk1 (fun e => hn (.inl e)) (fun e => hn (.inr (.inl e))), fun k hf => ?_⟩
  · match i, hi with
    | 0, _ => rfl
    | 1, _ => rfl
    | 2, _ => rfl
  · obtain ⟨c, hc⟩ : ∃ c, m.chs[i]? = some c := ⟨_, List.getElem?_eq_getElem hi⟩
    have hl := ((h.aow i c hc).lt k e2).2
    rcases hO.lies k e with q | q
    · exact h.ra i hi k q e2
    · omega
  · rcases hf with e | e | e | e
    · exact .inl (.inl e)
    · rcases hO.lies k e with q | q
      · exact .inl (.inr (.inl q))
      · exact .inr q
    · exact .inl (.inr (.inr (.inl e)))
    · exact .inl (.inr (.inr (.inr e)))
end Go.Proofs.Ytbnlgohaaadgeaa

/- Package disk: makeSafe, walked. -/
namespace Go.Proofs.Ytbnlgohaaadgeaa
open Go.RowKit
set_option maxRecDepth 100000
set_option maxRecDepth 100000

def safeM (m : FM) : FM := { m with safe := runM m.safe m.chs, chs := [] }

/-- The list of changes emptied. -/
theorem FileIs.empty {w w1 : World} {B fb : Nat} {m : FM} {rv cv : Value} {av : Nat → Value} (h : FileIs w B fb m rv cv av) {ca : Option Addr} {n cc : Nat} (ecv : cv = .slice ca n cc) (hw : w1.ownsRow B 116 2 (.slice ca 0 cc) 0 []) (ho : w1.os = w.os) (ht : w1.tape = w.tape) (hp : w1.output = w.output) (hz : w1.heap.size = w.heap.size) (hb : ∀ k, cv.ownBlock ≠ some k → w1.heap[k]? = w.heap[k]?) :
    FileIs (w1.setCell ⟨fb, 1, none⟩ (.slice ca 0 cc)) B fb { m with chs := [] } rv (.slice ca 0 cc) av ∧ Mv (FFt fb rv cv av m.chs.length) (FFt fb rv (.slice ca 0 cc) av 0) w (w1.setCell ⟨fb, 1, none⟩ (.slice ca 0 cc)) := by
  have hfb : w1.heap[fb]? = w.heap[fb]? := hb fb (rows_apart h.cow h.row (by decide))
  have hset : ∀ b, b ≠ fb → (w1.setCell ⟨fb, 1, none⟩ (.slice ca 0 cc)).heap[b]? = w1.heap[b]? := fun b hb => Below.heap_setCell _ _ _ _ hb
  have eob : (Value.slice ca 0 cc).ownBlock = cv.ownBlock := by rw [ecv]; cases ca <;> rfl
  have hr1 : w1.rowIs fb 98 3 (fCell rv cv m.sz) := h.row.of_block hfb
  refine ⟨⟨(hr1.set 1 _).congr (fun i hi => ?_), h.own.on (fun k e => (hset k (fun e2 => h.own.apart h.row (by decide) (e2 ▸ e))).trans (hb k (fun e2 => rows_apart2 h.cow h.own (by decide) k e2 e))), rows_keep hw (fun k e => hset k (fun e2 => rows_apart h.cow h.row (by decide) (by rw [← eob, ← e2]; exact e))), fun i c hc => by simp at hc, fun i hi => absurd hi (Nat.not_lt_zero _), fun i j hij hj => absurd hj (Nat.not_lt_zero _), h.lb⟩, ?_⟩
  · match i, hi with
    | 0, _ => rfl
    | 1, _ => rfl
    | 2, _ => rfl
  · refine ⟨ho, ht, hp, by rw [← hz]; simp [World.setCell], fun k hk hn => (hset k (fun e => hn (.inl e))).trans (hb k (fun e => hn (.inr (.inr (.inl e))))), fun k hf => ?_⟩
    rcases hf with e | e | e | ⟨i, hi, _⟩
    · exact .inl (.inl e)
    · exact .inl (.inr (.inl e))
    · exact .inl (.inr (.inr (.inl (eob ▸ e))))
    · omega

set_option maxHeartbeats 3200000 in
theorem makeSafe_any {w : World} {B fb : Nat} {m : FM} {rv cv : Value} {av : Nat → Value} (h : FileIs w B fb m rv cv av) (hB : B ≤ w.heap.size) (hok : okM m.safe m.chs) (hL : m.safe.length + sumB m.chs ≤ 1099511627776) (hN : m.chs.length ≤ 1099511627776) :
    Calls Try.prog 58 #[.pointer (some ⟨fb, 0, none⟩)] w fun e w' => e = .returned (.tuple #[]) ∧ ∃ rv' cv' av', FileIs w' B fb (safeM m) rv' cv' av' ∧ Mv (FFt fb rv cv av m.chs.length) (FFt fb rv' cv' av' 0) w w' := by
  have c1 : w.cell? ⟨fb, 1, none⟩ = some cv := h.row.cell (i := 1) (by decide)
  obtain ⟨cva, cvc, ecv⟩ : ∃ a c, cv = .slice a m.chs.length c := by
    rcases h.cow.2 with ⟨e, h0⟩ | ⟨g, cc, cur, e, _⟩
    · exact ⟨none, 0, by rw [e, ← h0]⟩
    · exact ⟨_, cc, e⟩
  subst ecv
  have HF : Hid (FileIs w B fb m rv (.slice cva m.chs.length cvc) av) := h
  clear h
  go_enter Try.func58, Try.ntmps58
  go_wp2_with fail
  go_loopg [9] m.chs.length (fun q s9 wx => ∃ (i : Nat) (r : List Nat) (v : Value), i ≤ m.chs.length ∧ q = m.chs.length - i ∧ s9 = .int .i64 i ∧ runM r (m.chs.drop i) = runM m.safe m.chs ∧ okM r (m.chs.drop i) ∧ r.length + sumB (m.chs.drop i) ≤ 1099511627776 ∧ FileIs wx B fb { m with safe := r } v (.slice cva m.chs.length cvc) av ∧ Mv (FFt fb rv (.slice cva m.chs.length cvc) av m.chs.length) (FFt fb v (.slice cva m.chs.length cvc) av m.chs.length) w wx)
  case atStart =>
    exact ⟨0, m.safe, rv, Nat.zero_le _, rfl, rfl, rfl, hok, hL, HF.out, Mv.refl _ _⟩
  case round =>
    obtain ⟨i, r, v, hi, rfl, rfl, haf, hokr, hlr, hF, hM⟩ := hrel
    clear HF c1
    by_cases hlt : i < m.chs.length
    · have hwi : IntKind.i64.wrap ((i : Int) + 1) = (i : Int) + 1 := by rw [IntKind.wrap_i64]; omega
      have hc : m.chs[i]? = some m.chs[i] := List.getElem?_eq_getElem hlt
      have hz : (i : Int) < (m.chs.length : Int) := by omega
      obtain ⟨g, cc, ba, bc, e1, _, e2, hbc, hbl, hbn, k0, k1⟩ := hF.chg hc
      have eva : cva = some ⟨g, 0, none⟩ := by injection e1
      subst eva
      have hdc := drop_cons hc
      have hsd := sum_drop hc
      generalize m.chs[i] = ch at *
      rw [hdc] at haf hokr
      have HAF : Hid (runM (ch.onto r ch.un) (m.chs.drop (i + 1)) = runM m.safe m.chs) := haf
      have HOK : Hid (okM (ch.onto r ch.un) (m.chs.drop (i + 1))) := hokr.2
      have HLN : Hid ((ch.onto r ch.un).length + sumB (m.chs.drop (i + 1)) ≤ 1099511627776) := by
        have := onto_len ch r ch.un
        show _ ≤ _
        omega
      have bq : Below wr.heap.size wr (wr.alloc (.cells #[.slice ba ch.b.length bc, .int .i64 (ch.t : Nat)] 116)) := (Below.refl _ _).alloc (Nat.le_refl _) _
      have n0 : (wr.alloc (.cells #[.slice ba ch.b.length bc, .int .i64 (ch.t : Nat)] 116)).cell? ⟨wr.heap.size, 0, none⟩ = some (.slice ba ch.b.length bc) := World.cell?_alloc_at (w := wr) _ _ _ 0 rfl
      have n1 : (wr.alloc (.cells #[.slice ba ch.b.length bc, .int .i64 (ch.t : Nat)] 116)).cell? ⟨wr.heap.size, 1, none⟩ = some (.int .i64 (ch.t : Nat)) := World.cell?_alloc_at (w := wr) _ _ _ 1 rfl
      have HCU : Hid (∀ W, Calls Try.prog 66 #[.agg #[.slice ba ch.b.length bc, .int .i64 (ch.t : Nat)]] W fun e w' => e = .returned (.int .i64 ((ch.un : Nat) : Int)) ∧ Below W.heap.size W w') := fun W => chUnits_any ba ch.b.length bc (ch.t : Nat) W
      have HSZ : Hid (∀ W3, Below (wr.alloc (.cells #[.slice ba ch.b.length bc, .int .i64 (ch.t : Nat)] 116)).heap.size (wr.alloc (.cells #[.slice ba ch.b.length bc, .int .i64 (ch.t : Nat)] 116)) W3 → Below wr.heap.size wr W3) := fun W3 h3 => bq.trans (h3.mono bq.size)
      have HON : Hid (∀ W, Below wr.heap.size wr W → Calls Try.prog 67 #[.agg #[.slice ba ch.b.length bc, .int .i64 (ch.t : Nat)], .pointer (some ⟨fb, 0, none⟩), .int .i64 ((ch.un : Nat) : Int)] W fun e w' => e = .returned (.tuple #[]) ∧ ∃ v', FileIs w' B fb { m with safe := ch.onto r ch.un } v' (.slice (some ⟨g, 0, none⟩) m.chs.length cvc) av ∧ Mv (FFt fb rv (.slice (some ⟨g, 0, none⟩) m.chs.length cvc) av m.chs.length) (FFt fb v' (.slice (some ⟨g, 0, none⟩) m.chs.length cvc) av m.chs.length) w w') := fun W hbW => by
        have hFW := hF.on hbW
        refine (onto_any (F := fCell v (.slice (some ⟨g, 0, none⟩) m.chs.length cvc) m.sz) hFW.row (by decide) (by decide) rfl hFW.own ch ba bc (hbl.on hbW) hbn hbc ch.un (Nat.le_refl _) (fun _ => hokr.1) (by show r.length + _ ≤ _; omega) (Nat.le_trans hB (Nat.le_trans hM.size hbW.size))).mono fun e w' ⟨he, v', hO⟩ => ?_
        obtain ⟨hF', hM'⟩ := hFW.safe hO
        exact ⟨he, v', hF', hM.trans ((Mv.of_below hbW).trans hM')⟩
      clear haf hokr hlr hbl hbn hbc hdc hsd hc e1 e2 hF hM
      generalize ch.onto r ch.un = R' at *
      generalize ch.b.length = bl at *
      generalize ch.un = cu at *
      generalize ch.t = ct at *
      go_upto_region 3 with fail
      generalize wr.alloc (.cells #[.slice ba bl bc, .int .i64 (ct : Nat)] 116) = W4 at *
      generalize wr.heap.size = ib at *
      clear k0 k1
      have n0d : W4.drew.cell? ⟨ib, 0, none⟩ = some (.slice ba bl bc) := n0
      have n1d : W4.drew.cell? ⟨ib, 1, none⟩ = some (.int .i64 (ct : Nat)) := n1
      have hbd : Below W4.heap.size W4 W4.drew := (Below.refl _ _).drew
      go_region_law (first
        | (go_simp; go_at_call 66; refine (HCU.out _).mono ?_; rintro e w3 ⟨rfl, hb3⟩; have o0 : w3.cell? ⟨ib, 0, none⟩ = some (.slice ba bl bc) := cel_on hb3 n0d; have o1 : w3.cell? ⟨ib, 1, none⟩ = some (.int .i64 (ct : Nat)) := cel_on hb3 n1d; have HON3 : Hid (Below _ _ w3) := HSZ.out w3 (hbd.trans hb3); clear hb3)
        | (go_simp; go_at_call 67; refine (HON.out _ HON3.out).mono ?_; rintro e w4 ⟨rfl, v', hF', hM'⟩; have HF' : Hid _ := hF'; have HM' : Hid _ := hM'; clear hF' hM'))
      all_goals
        go_wp2_with fail
        go_roundg (m.chs.length - (i + 1))
        case measure => go_light; omega
        case rel => go_light; exact ⟨i + 1, R', v', by omega, rfl, by simp, HAF.out, HOK.out, HLN.out, HF'.out, HM'.out⟩
    · obtain rfl : i = m.chs.length := by omega
      have e : m.chs.drop m.chs.length = [] := List.drop_eq_nil_of_le (Nat.le_refl _)
      rw [e] at haf
      have hz : ¬ ((m.chs.length : Int) < (m.chs.length : Int)) := by omega
      have hrm : r = runM m.safe m.chs := haf
      obtain ⟨w1, ca, cc, ev, hca, hcl, hw1, ho, ht, hp, hsz, hbk⟩ := clear_ch hF.cow
      have e1 : cva = ca := by injection ev
      have e2 : cvc = cc := by injection ev
      subst e1 e2
      obtain ⟨hF2, hM2⟩ := hF.empty rfl hw1 ho ht hp hsz hbk
      have l1 : wr.cell? ⟨fb, 1, none⟩ = some (.slice cva m.chs.length cvc) := hF.row.cell (i := 1) (by decide)
      have hfb : w1.heap[fb]? = wr.heap[fb]? := hbk fb (rows_apart hF.cow hF.row (by decide))
      have l2 : w1.cell? ⟨fb, 1, none⟩ = some (.slice cva m.chs.length cvc) := by rw [World.cell?_of_block (a := ⟨fb, 1, none⟩) hfb]; exact l1
      have l3 : w1.frozen? ⟨fb, 1, none⟩ = false := (hF.row.of_block hfb).frozen 1
      have HFN : Hid (∃ rv' cv' av', FileIs (w1.setCell ⟨fb, 1, none⟩ (.slice cva 0 cvc)) B fb (safeM m) rv' cv' av' ∧ Mv (FFt fb rv (.slice cva m.chs.length cvc) av m.chs.length) (FFt fb rv' cv' av' 0) w (w1.setCell ⟨fb, 1, none⟩ (.slice cva 0 cvc))) := by
        refine ⟨v, _, av, ?_, hM.trans hM2⟩
        have es : safeM m = { m with safe := r, chs := [] } := by unfold safeM; rw [hrm]
        rw [es]
        exact hF2
      clear hF hM hF2 hM2 haf hokr hlr e hw1 ho ht hp hsz hbk hfb hrm ev hok hL
      generalize hLL : m.chs.length = L at *
      have HLL : Hid (m.chs.length = L) := hLL
      clear hLL
      rcases hca with ⟨rfl, rfl, hL0⟩ | ⟨g, rfl⟩
      · subst hL0
        go_wp2_with fail
        go_end0
        exact ⟨rfl, by rw [HLL.out]; exact HFN.out⟩
      · have hcc0 : (0 : Int) ≤ (cvc : Int) := by omega
        go_wp2_with fail
        go_end0
        exact ⟨rfl, by rw [HLL.out]; exact HFN.out⟩
end Go.Proofs.Ytbnlgohaaadgeaa

/- Package disk: the power. -/
namespace Go.Proofs.Ytbnlgohaaadgeaa
open Go.RowKit
set_option maxRecDepth 100000
set_option maxRecDepth 100000

theorem now_any {w : World} {db st ah : Nat} (c5 : w.cell? ⟨db, 5, none⟩ = some (.int .i64 (st : Nat))) (c6 : w.cell? ⟨db, 6, none⟩ = some (.int .i64 (ah : Nat))) (hs : st ≤ 1152921504606846976) (ha : ah ≤ st) :
    Calls Try.prog 68 #[.pointer (some ⟨db, 4, none⟩)] w fun e w' => e = .returned (.int .i64 ((st - ah : Nat) : Int)) ∧ ∃ j, w' = w.drewN j := by
  obtain ⟨d, hd, hd2⟩ : ∃ d : Nat, (st : Int) - (ah : Int) = (d : Int) ∧ st - ah = d := ⟨st - ah, by omega, rfl⟩
  have hw : IntKind.i64.wrap (d : Int) = (d : Int) := by rw [IntKind.wrap_i64]; omega
  rw [hd2]
  clear hd2 hs ha
  go_enter Try.func68, Try.ntmps68
  go_upto_region 1 with fail
  have d5 : w.drew.cell? ⟨db, 5, none⟩ = some (.int .i64 (st : Nat)) := c5
  have d6 : w.drew.cell? ⟨db, 6, none⟩ = some (.int .i64 (ah : Nat)) := c6
  go_region
  all_goals
    go_wp2
    go_ret
    exact ⟨rfl, 1, rfl⟩

/-- Is the disk full by its plan? -/
def fullB (st ah : Nat) (pf pt : Int) : Bool := decide (1 ≤ pf) && decide (pf ≤ ((st - ah : Nat) : Int)) && decide (((st - ah : Nat) : Int) ≤ pt)
set_option maxHeartbeats 1600000 in
theorem isFull_any {w : World} {db st ah : Nat} {pf pt : Int} (c5 : w.cell? ⟨db, 5, none⟩ = some (.int .i64 (st : Nat))) (c6 : w.cell? ⟨db, 6, none⟩ = some (.int .i64 (ah : Nat))) (c8 : w.cell? ⟨db, 8, none⟩ = some (.int .i64 pf)) (c9 : w.cell? ⟨db, 9, none⟩ = some (.int .i64 pt)) (hs : st ≤ 1152921504606846976) (ha : ah ≤ st) :
    Calls Try.prog 52 #[.pointer (some ⟨db, 4, none⟩)] w fun e w' => e = .returned (.bool (fullB st ah pf pt)) ∧ ∃ j, w' = w.drewN j := by
  have HC : Hid (∀ k, Calls Try.prog 68 #[.pointer (some ⟨db, 4, none⟩)] (w.drewN k) fun e w' => e = .returned (.int .i64 ((st - ah : Nat) : Int)) ∧ ∃ j, w' = (w.drewN k).drewN j) := fun k => now_any (w := w.drewN k) c5 c6 hs ha
  unfold fullB
  clear c5 c6 hs ha
  generalize st - ah = d at *
  by_cases h1 : 1 ≤ pf
  · have e1 : decide (1 ≤ pf) = true := decide_eq_true h1
    by_cases h2 : pf ≤ (d : Int)
    · have e2 : decide (pf ≤ (d : Int)) = true := decide_eq_true h2
      by_cases h3 : (d : Int) ≤ pt
      · have e3 : decide ((d : Int) ≤ pt) = true := decide_eq_true h3
        rw [e1, e2, e3]
        go_enter Try.func52, Try.ntmps52
        go_wp2_with fail
        go_quiet (exact Calls.quiet_of (HC.out _))
        go_wp2_with fail
        go_ret
        exact ⟨rfl, _, rfl⟩
      · have e3 : decide ((d : Int) ≤ pt) = false := decide_eq_false h3
        rw [e1, e2, e3]
        go_enter Try.func52, Try.ntmps52
        go_wp2_with fail
        go_quiet (exact Calls.quiet_of (HC.out _))
        go_wp2_with fail
        go_ret
        exact ⟨rfl, _, rfl⟩
    · have e2 : decide (pf ≤ (d : Int)) = false := decide_eq_false h2
      rw [e1, e2, Bool.and_false, Bool.false_and]
      go_enter Try.func52, Try.ntmps52
      go_wp2_with fail
      go_quiet (exact Calls.quiet_of (HC.out _))
      go_wp2_with fail
      go_ret
      exact ⟨rfl, _, rfl⟩
  · have e1 : decide (1 ≤ pf) = false := decide_eq_false h1
    rw [e1, Bool.false_and, Bool.false_and]
    go_enter Try.func52, Try.ntmps52
    go_wp2_with fail
    go_quiet (fail)
    go_wp2_with fail
    go_ret
    exact ⟨rfl, _, rfl⟩

/-- A stroke. -/
def hitB (st ah : Nat) (po : Int) : Bool := ((st + 1 - ah : Nat) : Int) == po
def strCell (F : Nat → Value) (st ah : Nat) (po : Int) (i : Nat) : Value := if i = 5 then .int .i64 ((st + 1 : Nat) : Int) else if i = 4 then (if hitB st ah po then .bool true else F 4) else F i
set_option maxHeartbeats 1600000 in
theorem stroke_any {w : World} {db n st ah : Nat} {po : Int} {t : TypeId} {F : Nat → Value} (hr : w.rowIs db t n F) (hn : 7 < n) (h5 : F 5 = .int .i64 (st : Nat)) (h6 : F 6 = .int .i64 (ah : Nat)) (h7 : F 7 = .int .i64 po) (hs : st < 1152921504606846976) (ha : ah ≤ st) :
    Calls Try.prog 51 #[.pointer (some ⟨db, 4, none⟩)] w fun e w' => e = .returned (.int .i64 (if hitB st ah po then 45 else 0)) ∧ w'.rowIs db t n (strCell F st ah po) ∧ Mv (fun k => k = db) (fun k => k = db) w w' := by
  obtain ⟨s1, hs1, es1⟩ : ∃ s1 : Nat, (st : Int) + 1 = (s1 : Int) ∧ st + 1 = s1 := ⟨st + 1, by omega, rfl⟩
  have c5 : w.cell? ⟨db, 5, none⟩ = some (.int .i64 (st : Nat)) := h5 ▸ hr.cell (i := 5) (by omega)
  have f5 := hr.frozen 5
  have hr1 := hr.set 5 (.int .i64 (s1 : Int))
  have hset : ∀ (W : World) (o : Nat) (v : Value), ∀ b, b ≠ db → (W.setCell ⟨db, o, none⟩ v).heap[b]? = W.heap[b]? := fun W o v b hb => Below.heap_setCell _ _ _ _ hb
  have hw1 : IntKind.i64.wrap (s1 : Int) = (s1 : Int) := by rw [IntKind.wrap_i64]; omega
  have mv1 : Mv (fun k => k = db) (fun k => k = db) w (w.setCell ⟨db, 5, none⟩ (.int .i64 (s1 : Int))) := ⟨rfl, rfl, rfl, by simp [World.setCell], fun k _ hk => hset _ _ _ k hk, fun k hk => .inl hk⟩
  obtain ⟨W, hW⟩ : ∃ W, W = w.setCell ⟨db, 5, none⟩ (.int .i64 (s1 : Int)) := ⟨_, rfl⟩
  rw [← hW] at hr1 mv1
  have d5 : W.cell? ⟨db, 5, none⟩ = some (.int .i64 (s1 : Int)) := by have := hr1.cell (i := 5) (by omega); simpa using this
  have d6 : W.cell? ⟨db, 6, none⟩ = some (.int .i64 (ah : Nat)) := by have := hr1.cell (i := 6) (by omega); simpa [h6] using this
  have d7 : W.cell? ⟨db, 7, none⟩ = some (.int .i64 po) := by have := hr1.cell (i := 7) (by omega); simpa [h7] using this
  have f4 : W.frozen? ⟨db, 4, none⟩ = false := hr1.frozen 4
  have c4 : W.cell? ⟨db, 4, none⟩ = some (F 4) := by have := hr1.cell (i := 4) (by omega); simpa using this
  have HC : Hid (∀ k, Calls Try.prog 68 #[.pointer (some ⟨db, 4, none⟩)] (W.drewN k) fun e w' => e = .returned (.int .i64 ((s1 - ah : Nat) : Int)) ∧ ∃ j, w' = (W.drewN k).drewN j) := fun k => now_any (w := W.drewN k) d5 d6 (by omega) (by omega)
  have HR : Hid (∀ k, (W.drewN k).rowIs db t n (fun i => if i = 5 then .int .i64 (s1 : Int) else F i)) := fun k => hr1
  have HM : Hid (∀ k, Mv (fun k => k = db) (fun k => k = db) w (W.drewN k)) := fun k => ⟨mv1.os, mv1.tape, mv1.output, mv1.size, mv1.block, mv1.foot⟩
  have HS : Hid (∀ k v, Mv (fun k => k = db) (fun k => k = db) w ((W.drewN k).setCell ⟨db, 4, none⟩ v)) := fun k v => (HM.out k).trans ⟨rfl, rfl, rfl, by simp [World.setCell], fun q _ hk => hset _ _ _ q hk, fun q hk => .inl hk⟩
  have HW : Hid (w.setCell ⟨db, 5, none⟩ (.int .i64 (s1 : Int)) = W) := hW.symm
  clear hr hr1 mv1 hset hW h5 h6 h7
  unfold strCell hitB
  rw [es1]
  clear es1 hs ha
  generalize s1 - ah = d at *
  cases hh : ((d : Int) == po)
  · go_enter Try.func51, Try.ntmps51
    go_upto_region 2 with fail
    rw [HW.out]
    go_quiet (exact Calls.quiet_of (HC.out _))
    go_wp2_with fail
    go_ret
    exact ⟨rfl, (HR.out _).congr (fun i hi => by by_cases e5 : i = 5 <;> by_cases e4 : i = 4 <;> simp [e5, e4]), HM.out _⟩
  · go_enter Try.func51, Try.ntmps51
    go_upto_region 2 with fail
    rw [HW.out]
    go_quiet (exact Calls.quiet_of (HC.out _))
    go_wp2_with fail
    go_ret
    exact ⟨rfl, ((HR.out _).set 4 (.bool true)).congr (fun i hi => by by_cases e5 : i = 5 <;> by_cases e4 : i = 4 <;> simp [e5, e4]), HS.out _ _⟩
end Go.Proofs.Ytbnlgohaaadgeaa

/- Package disk: images in memory; isImage, fits. -/
namespace Go.Proofs.Ytbnlgohaaadgeaa
open Go.RowKit Go.Maps Go.Sort
set_option maxRecDepth 100000
set_option maxRecDepth 100000

/-- A list of files, as it lies in memory. -/
def Img (w : World) (a : Option Addr) (n : Nat) (nm : Nat → ByteArray) (dl : Nat → Nat) (dx : Nat → Nat → Nat) : Prop :=
  ∀ i, i < n → ∃ b o, a = some ⟨b, o, none⟩ ∧ w.cell? ⟨b, o + i * 2, none⟩ = some (.string (nm i)) ∧ ∃ da dc, w.cell? ⟨b, o + i * 2 + 1, none⟩ = some (.slice da (dl i) dc) ∧ Byt w da (dl i) (dx i)
theorem Img.on {w w' : World} {a : Option Addr} {n : Nat} {nm : Nat → ByteArray} {dl : Nat → Nat} {dx : Nat → Nat → Nat} (h : Img w a n nm dl dx) (hb : Below w.heap.size w w') : Img w' a n nm dl dx := fun i hi => by
  obtain ⟨b, o, e, h1, da, dc, h2, h3⟩ := h i hi
  exact ⟨b, o, e, cel_on hb h1, da, dc, cel_on hb h2, h3.on hb⟩

/-- Is file i a good one behind the one before? -/
def stepB (nm : Nat → ByteArray) (i : Nat) : Bool := okN (nm i) && (decide (i = 0) || Op.bytesLess (nm (i - 1)).toList (nm i).toList)
def imgB (n : Nat) (nm : Nat → ByteArray) : Bool := decide (n ≤ 64) && (List.range n).all (stepB nm)
theorem all_range_succ (f : Nat → Bool) (n : Nat) : (List.range (n + 1)).all f = ((List.range n).all f && f n) := by
  rw [List.range_succ, List.all_append]; simp
theorem all_range_false {f : Nat → Bool} {n i : Nat} (hi : i < n) (h : f i = false) : (List.range n).all f = false := by
  rw [List.all_eq_false]
  exact ⟨i, List.mem_range.2 hi, by rw [h]; simp⟩

theorem below_drewN {w w' : World} {B : Nat} (h : Below B w w') (n : Nat) : Below B w (w'.drewN n) := ⟨h.os, h.tape, h.output, h.size, h.block⟩

set_option maxHeartbeats 3200000 in
theorem isImage_any (a : Option Addr) (n c : Nat) (nm : Nat → ByteArray) (dl : Nat → Nat) (dx : Nat → Nat → Nat) (w : World) (h : Img w a n nm dl dx) :
    Calls Try.prog 43 #[.slice a n c] w fun e w' => e = .returned (.bool (imgB n nm)) ∧ Below w.heap.size w w' := by
  by_cases h64 : n ≤ 64
  · have z64 : ¬ (64 : Int) < (n : Int) := by omega
    obtain ⟨R, hR⟩ : ∃ R, R = (List.range n).all (stepB nm) := ⟨_, rfl⟩
    have e0 : imgB n nm = R := by rw [hR]; unfold imgB; simp [h64]
    rw [e0]
    have HR : Hid (R = (List.range n).all (stepB nm)) := hR
    have HI : Hid (Img w a n nm dl dx) := h
    have hfn : ∀ s W, _ := fun s W => fileName_any s W
    clear e0 hR h
    go_enter Try.func43, Try.ntmps43
    go_wp2_with fail
    go_loopg [10] n (fun q s10 wx => ∃ (i : Nat), i ≤ n ∧ q = n - i ∧ s10 = .int .i64 i ∧ (List.range i).all (stepB nm) = true ∧ Below w.heap.size w wx)
    case atStart => exact ⟨0, Nat.zero_le _, rfl, rfl, rfl, Below.refl _ _⟩
    case round =>
      obtain ⟨i, hi, rfl, rfl, hall, hB⟩ := hrel
      by_cases hlt : i < n
      · have hz : (i : Int) < (n : Int) := by omega
        have hI := HI.out.on hB
        obtain ⟨b, o, rfl, h1, da, dc, h2, h3⟩ := HI.out.on hB i hlt
        have HS : Hid ((List.range (i + 1)).all (stepB nm) = ((List.range i).all (stepB nm) && stepB nm i)) := all_range_succ _ _
        have HF : Hid (stepB nm i = false → (List.range n).all (stepB nm) = false) := fun e => all_range_false hlt e
        have HB2 := hB.alloc hB.size (.cells #[.string (nm i), .slice da (dl i) dc] 51)
        have bq : Below wr.heap.size wr (wr.alloc (.cells #[.string (nm i), .slice da (dl i) dc] 51)) := (Below.refl _ _).alloc (Nat.le_refl _) _
        have k0 : (wr.alloc (.cells #[.string (nm i), .slice da (dl i) dc] 51)).cell? ⟨wr.heap.size, 0, none⟩ = some (.string (nm i)) := World.cell?_alloc_at (w := wr) _ _ _ 0 rfl
        go_upto_region 6 with fail
        have hI2 := hI.on bq
        clear hI bq
        generalize wr.alloc (.cells #[.string (nm i), .slice da (dl i) dc] 51) = W2 at *
        generalize wr.heap.size = fb at *
        have hst : stepB nm i = (okN (nm i) && (decide (i = 0) || Op.bytesLess (nm (i - 1)).toList (nm i).toList)) := rfl
        have HST : Hid (stepB nm i = (okN (nm i) && (decide (i = 0) || Op.bytesLess (nm (i - 1)).toList (nm i).toList))) := hst
        clear hst h1 h2 h3
        cases hok : okN (nm i) with
        | false =>
          have hfi := hfn (nm i)
          rw [hok] at hfi
          have HE : Hid (stepB nm i = false) := by rw [HST.out, hok]; rfl
          clear hI2 hok HST HS hfn
          generalize nm i = s at *
          go_quiet (exact Calls.quiet_of_same (hfi _))
          go_wp2_with fail
          go_ret
          exact ⟨by rw [HR.out, HF.out HE.out]; rfl, below_drewN HB2 _⟩
        | true =>
          have hfi := hfn (nm i)
          rw [hok] at hfi
          by_cases h0 : i = 0
          · subst h0
            have HE : Hid (stepB nm 0 = true) := by rw [HST.out, hok]; rfl
            clear hI2 hok HST hfn
            generalize nm 0 = s at *
            go_quiet (exact Calls.quiet_of_same (hfi _))
            go_wp2_with fail
            go_roundg (n - (0 + 1))
            case measure => go_light; omega
            case rel => go_light; exact ⟨0 + 1, by omega, rfl, by simp, by rw [HS.out, hall, HE.out]; rfl, below_drewN HB2 _⟩
          · obtain ⟨b', o', e', hp, _⟩ := hI2 (i - 1) (by omega)
            cases e'
            have hi0 : (0 : Int) < (i : Int) := by omega
            obtain ⟨j, hj⟩ : ∃ j : Nat, i = j + 1 := ⟨i - 1, by omega⟩
            subst hj
            rw [Nat.add_sub_cancel] at hp
            have hwr : IntKind.i64.wrap (j : Int) = (j : Int) := by rw [IntKind.wrap_i64]; omega
            have hj2 : ((j : Nat) : Int) < (n : Int) := by omega
            have hlB : stepB nm (j + 1) = Op.bytesLess (nm j).toList (nm (j + 1)).toList := by rw [HST.out, hok, Nat.add_sub_cancel]; simp
            have HLB : Hid (stepB nm (j + 1) = Op.bytesLess (nm j).toList (nm (j + 1)).toList) := hlB
            clear hI2 hok HST hfn hlB
            generalize nm (j + 1) = s at *
            generalize nm j = s' at *
            cases hbl : Op.bytesLess s'.toList s.toList with
            | true =>
              have HE : Hid (stepB nm (j + 1) = true) := by rw [HLB.out, hbl]; exact rfl
              have hge : ∀ W, (binOp .geq 9 (.string s') (.string s)).run Try.prog W = .ok (.bool false) W := fun W => by simp [binOp, Op.stringOp, hbl]
              go_quiet (exact Calls.quiet_of_same (hfi _))
              go_wp2_with fail
              go_roundg (n - (j + 1 + 1))
              case measure => go_light; omega
              case rel => go_light; exact ⟨j + 1 + 1, by omega, rfl, by simp, by rw [HS.out, hall, HE.out]; rfl, below_drewN HB2 _⟩
            | false =>
              have HE : Hid (stepB nm (j + 1) = false) := by rw [HLB.out, hbl]; exact rfl
              have hge : ∀ W, (binOp .geq 9 (.string s') (.string s)).run Try.prog W = .ok (.bool true) W := fun W => by simp [binOp, Op.stringOp, hbl]
              go_quiet (exact Calls.quiet_of_same (hfi _))
              go_wp2_with fail
              go_ret
              exact ⟨by rw [HR.out, HF.out HE.out]; rfl, below_drewN HB2 _⟩
      · obtain rfl : i = n := by omega
        go_wp2_with fail
        go_ret
        exact ⟨by rw [HR.out, hall]; rfl, hB⟩
  · have e0 : imgB n nm = false := by unfold imgB; simp [h64]
    rw [e0]
    have z64 : (64 : Int) < (n : Int) := by omega
    go_enter Try.func43, Try.ntmps43
    go_wp2_with fail
    go_ret
    exact ⟨rfl, Below.refl _ _⟩
end Go.Proofs.Ytbnlgohaaadgeaa
