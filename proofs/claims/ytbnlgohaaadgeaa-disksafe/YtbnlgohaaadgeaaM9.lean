/- Own texts, joined: S1, S2, S3, S4, S5, S6, S7, S8. -/
import Derived.Test.YtbnlgohaaadgeaaM8

/- DiskSafe: allSafe. -/
namespace Go.Proofs.Ytbnlgohaaadgeaa
open Go.RowKit Go.Maps Go.Sort Go.Joins
set_option maxRecDepth 100000
set_option maxRecDepth 100000

/-- Sync at a name that is seen. -/
theorem sync_at {p : DM} {n T : Nat} (hI : Inv p n T) (hc : Calm p) {q : Lit × DataW Nat} (hq : q ∈ entsOf p.seen) :
    ∃ b, q.2 = .held b ∧ syncM p (nameB q) = ({ strokeM p with fm := put1 p.fm b (safeM (p.fm b)) }, 0) := by
  have hE := hI.ents
  obtain ⟨ok1, ok2, _⟩ := hE.names.1.name hq
  have hm := hE.names.2
  obtain ⟨es, e, _, hall⟩ := hE
  have hq' : q ∈ es := by rw [e] at hq; exact hq
  obtain ⟨_, _, _, i, hi, h3⟩ := hall q hq'
  have hat : p.seen.atKey (.string (nameB q).data.toList) .nil = .held i := by
    rw [← h3, hm, ← ok2]
    refine WideAt.atKey_mem .nil (by rw [ok2]; exact litS _) hI.ents.names.1.apart hq
  have hf : findM p.off p.seen (nameB q) = (some i, 0) := by
    unfold findM
    rw [hc.1, ok1, hat]
    rfl
  refine ⟨i, h3, ?_⟩
  unfold syncM
  rw [hf]
  show (if strokeE p = 0 then _ else _) = _
  rw [if_pos hc.err]

/-- The first i names of p have been made safe in q. -/
structure Sfd (p q : DM) (i : Nat) : Prop where
  seen : q.seen = p.seen
  safe : q.safe = p.safe
  ms : q.ms = p.ms
  room : q.room = p.room
  calm : Calm q
  pf : q.pf = p.pf
  all : ∀ b, (q.fm b).all = (p.fm b).all
  done : ∀ (j : Nat) (e : Lit × DataW Nat), j < i → (entsOf p.seen)[j]? = some e → (fileOf q.fm e.2).chs = []
theorem safeM_all (m : FM) : (safeM m).all = m.all := rfl
theorem Sfd.begin {p : DM} (h : Calm p) : Sfd p p 0 := ⟨rfl, rfl, rfl, rfl, h, rfl, fun _ => rfl, fun _ _ hj => absurd hj (Nat.not_lt_zero _)⟩
theorem Sfd.step {p q : DM} {i n T : Nat} (h : Sfd p q i) (hI : Inv q n T) {e : Lit × DataW Nat} (he : (entsOf p.seen)[i]? = some e) : (syncM q (nameB e)).2 = 0 ∧ Sfd p (syncM q (nameB e)).1 (i + 1) := by
  obtain ⟨b, hb, hs⟩ := sync_at hI h.calm (q := e) (by rw [h.seen]; exact List.mem_of_getElem? he)
  rw [hs]
  refine ⟨rfl, h.seen, h.safe, h.ms, h.room, ?_, h.pf, fun c => ?_, fun j x hj hx => ?_⟩
  · have := h.calm.stroke
    exact this
  · show (put1 q.fm b (safeM (q.fm b)) c).all = _
    by_cases hc : c = b
    · subst hc
      rw [put1_at, safeM_all]
      exact h.all c
    · rw [put1_ne _ _ hc]
      exact h.all c
  · show (fileOf (put1 q.fm b (safeM (q.fm b))) x.2).chs = []
    have key : ∀ d : DataW Nat, (fileOf q.fm d).chs = [] ∨ d = .held b → (fileOf (put1 q.fm b (safeM (q.fm b))) d).chs = [] := fun d hd => by
      cases d with
      | held c =>
        show (put1 q.fm b (safeM (q.fm b)) c).chs = []
        by_cases hc : c = b
        · subst hc
          rw [put1_at]
          rfl
        · rw [put1_ne _ _ hc]
          rcases hd with hd | hd
          · exact hd
          · cases hd
            exact absurd rfl hc
      | _ => rfl
    by_cases hji : j < i
    · exact key _ (.inl (h.done j x hji hx))
    · have : j = i := by omega
      subst this
      rw [he] at hx
      cases hx
      exact key _ (.inr hb)

/-- All is safe: what is seen is safe, and nothing stands out. -/
structure Shut (p q : DM) : Prop where
  seen : q.seen = p.seen
  safe : q.safe = q.seen
  ms : q.ms = []
  room : q.room = p.room
  calm : Calm q
  pf : q.pf = p.pf
  all : ∀ b, (q.fm b).all = (p.fm b).all
  chs : ∀ e ∈ entsOf p.seen, (fileOf q.fm e.2).chs = []
theorem Sfd.shut {p q : DM} {n T : Nat} (h : Sfd p q (entsOf p.seen).length) (hI : Inv q n T) : (syncN q).2 = 0 ∧ Shut p (syncN q).1 := by
  have e : syncN q = (safeN (strokeM q), 0) := by
    unfold syncN
    rw [h.calm.1, if_neg (by simp), if_pos h.calm.err]
  rw [e]
  refine ⟨rfl, h.seen, ?_, rfl, h.room, ?_, h.pf, h.all, fun x hx => ?_⟩
  · show movesOn q.safe q.ms = q.seen
    exact hI.seen.symm
  · have := h.calm.stroke
    exact this
  · obtain ⟨j, hj⟩ := List.mem_iff_getElem?.1 hx
    exact h.done j x (List.getElem?_eq_some_iff.1 hj).1 hj

/-- What the loop of allSafe keeps. -/
structure SafS (w w1 : World) (B db : Nat) (p : DM) (n T : Nat) (F : Nat → Prop) (a : Option Addr) (i : Nat) (W : World) : Prop where
  mem : ∃ F' q, DK W B db q n (T + 2 * i) F' ∧ Mv F F' w W ∧ Lies w.heap.size w1.heap.size W (fun W => NamesAt W a (namesI p)) ∧ Spare w.heap.size w1.heap.size F' ∧ Sfd p q i

set_option maxHeartbeats 3200000 in
theorem allSafe_is {w : World} {B db : Nat} {p : DM} {n T : Nat} {F : Nat → Prop} (h : DK w B db p n T F) (hT : T ≤ 1099511626000) (hc : Calm p) :
    Calls Try.prog 23 #[.pointer (some ⟨db, 0, none⟩)] w fun e w' => e = .returned (.bool true) ∧ ∃ F' q, DK w' B db q n (T + 130) F' ∧ Mv F F' w w' ∧ Shut p q := by
  have HNUM : Hid (∀ (e : Int) W, Calls Try.prog 15 #[.int .i64 e] W fun r w' => r = .returned (.int .i64 e) ∧ w' = W) := num_is
  obtain ⟨L, hL⟩ : ∃ L, (namesI p).length = L := ⟨_, rfl⟩
  have hcnt : L ≤ 64 := by
    rw [← hL]
    unfold namesI
    rw [List.length_map]
    have := h.inv.cnt
    obtain ⟨es, e, _, _⟩ := h.inv.ents
    rw [e] at this ⊢
    exact this
  have HLE : Hid ((entsOf p.seen).length = L) := by
    show _ = _
    rw [← hL]
    unfold namesI
    rw [List.length_map]
  have hl := h.list hc.1
  rw [hL] at hl
  have HL : Hid (Calls Try.prog 29 #[.pointer (some ⟨db, 0, none⟩)] w fun e w' => ∃ a c, e = .returned (.tuple #[.slice a L c, .int .i64 0]) ∧ Lies w.heap.size w'.heap.size w' (fun W => NamesAt W a (namesI p)) ∧ Below w.heap.size w w') := hl
  have HD : Hid (DK w B db p n T F ∧ Calm p) := ⟨h, hc⟩
  clear h hl hc hL
  go_enter Try.func23, Try.ntmps23
  go_wp2_with fail
  refine HL.out.mono ?_
  rintro e w1 ⟨na, nc, rfl, hnl, hb1⟩
  have hS0 : SafS w w1 B db p n T F na 0 w1 := ⟨⟨F, p, HD.out.1.on hb1, Mv.of_below hb1, hnl, fun k hk => .inl (HD.out.1.lt k hk).2, Sfd.begin HD.out.2⟩⟩
  clear HL hnl hb1 HD
  go_wp2_with (go_at_call 15; refine (HNUM.out _ _).mono ?_; rintro e w1 ⟨rfl, rfl⟩)
  go_loopg [5, 6] L (fun q s5 s6 wx => ∃ (i : Nat), i ≤ L ∧ q = L - i ∧ s6 = .int .i64 i ∧ s5 = .bool true ∧ SafS w w1 B db p n T F na i wx)
  case atStart => exact ⟨0, Nat.zero_le _, rfl, rfl, rfl, hS0⟩
  case round =>
    obtain ⟨i, hi, rfl, rfl, rfl, hS⟩ := hrel
    clear hS0
    by_cases hlt : i < L
    · have hz : (i : Int) < (L : Int) := by omega
      have hwi : IntKind.i64.wrap ((i : Int) + 1) = (i : Int) + 1 := by rw [IntKind.wrap_i64]; omega
      obtain ⟨F', q, hD, hM, hLi, hSp, hf⟩ := hS.mem
      obtain ⟨x, hx⟩ : ∃ x, (entsOf p.seen)[i]? = some x := ⟨_, List.getElem?_eq_getElem (by have := HLE.out; omega)⟩
      obtain ⟨g, rfl, hcn0⟩ := hLi.now i (keyB x.1) (by unfold namesI; rw [List.getElem?_map, hx]; rfl)
      obtain ⟨s1, s2⟩ := hf.step hD.inv hx
      have hcn : wr.cell? ⟨g, i, none⟩ = some (.string (nameB x)) := hcn0
      have HSY : Hid (Calls Try.prog 34 #[.pointer (some ⟨db, 0, none⟩), .string (nameB x)] wr fun e w' => e = .returned (.int .i64 0) ∧ SafS w w1 B db p n T F (some ⟨g, 0, none⟩) (i + 1) w') := by
        have := hD.sync (by omega) (nameB x)
        rw [s1] at this
        exact this.mono fun e w' ⟨he, F2, hD2, hM2⟩ => ⟨he, ⟨F2, _, hD2.mono (by omega), hM.trans hM2, (hLi.mv hSp hM2).1, (hLi.mv hSp hM2).2, s2⟩⟩
      clear hS hD hM hLi hSp hf hx s1 s2 hcn0
      generalize nameB x = nm at *
      go_wp2_with fail
      refine HSY.out.mono ?_
      rintro e w2 ⟨rfl, hS2⟩
      clear HSY hcn
      go_wp2_with (go_at_call 15; refine (HNUM.out _ _).mono ?_; rintro e w2 ⟨rfl, rfl⟩)
      go_roundg (L - (i + 1))
      case measure => go_light; omega
      case rel => go_light; exact ⟨i + 1, by omega, rfl, by simp, rfl, hS2⟩
    · obtain rfl : i = L := by omega
      have hz : ¬ ((i : Int) < (i : Int)) := by omega
      obtain ⟨F', q, hD, hM, hLi, hSp, hf⟩ := hS.mem
      rw [← HLE.out] at hf
      obtain ⟨s1, s2⟩ := hf.shut hD.inv
      have HSN : Hid (Calls Try.prog 35 #[.pointer (some ⟨db, 0, none⟩)] wr fun e w' => e = .returned (.int .i64 0) ∧ ∃ F' q, DK w' B db q n (T + 130) F' ∧ Mv F F' w w' ∧ Shut p q) := by
        have := hD.names (by omega)
        rw [s1] at this
        exact this.mono fun e w' ⟨he, F2, hD2, hM2⟩ => ⟨he, F2, _, hD2.mono (by omega), hM.trans hM2, s2⟩
      clear hS hD hM hLi hSp hf s1 s2
      go_wp2_with fail
      refine HSN.out.mono ?_
      rintro e w2 ⟨rfl, hS2⟩
      clear HSN
      have HS2 : Hid (∃ F' q, DK w2 B db q n (T + 130) F' ∧ Mv F F' w w2 ∧ Shut p q) := hS2
      clear hS2
      go_wp2_with (go_at_call 15; refine (HNUM.out _ _).mono ?_; rintro e w2 ⟨rfl, rfl⟩)
      go_ret
      exact ⟨rfl, HS2.out⟩
end Go.Proofs.Ytbnlgohaaadgeaa

/- DiskSafe: the mathematics of appends behind what is safe. -/
namespace Go.Proofs.Ytbnlgohaaadgeaa
open Go.RowKit Go.Maps Go.Sort Go.Joins
set_option maxRecDepth 100000
set_option maxRecDepth 100000

/-- A file that nothing but additions has changed since it was safe. -/
def Grown (m : FM) : Prop := m.chs = [] ∨ ∃ b t, m.chs = [⟨b, t⟩] ∧ 0 < b.length
theorem Grown.aft {m : FM} (h : Grown m) (k : Nat) : m.safe <+: aftM m.safe m.chs k ∧ aftM m.safe m.chs k <+: m.all := by
  unfold FM.all
  rcases h with h | ⟨b, t, h, hb⟩
  · rw [h]
    exact ⟨List.prefix_refl _, List.prefix_refl _⟩
  · rw [h]
    have hun : (⟨b, t⟩ : Chg).un = b.length := by
      unfold Chg.un
      exact if_neg (by show b.length ≠ 0; omega)
    have e1 : aftM m.safe [⟨b, t⟩] k = (⟨b, t⟩ : Chg).onto m.safe (min k b.length) := by
      show (⟨b, t⟩ : Chg).onto m.safe (min k (⟨b, t⟩ : Chg).un) = _
      rw [hun]
    have e2 : runM m.safe [⟨b, t⟩] = m.safe ++ b := by
      show (⟨b, t⟩ : Chg).onto m.safe (⟨b, t⟩ : Chg).un = _
      rw [hun]
      unfold Chg.onto
      rw [if_neg (by omega), if_neg (show ¬ b.length = 0 by omega), List.take_length]
    rw [e1, e2]
    unfold Chg.onto
    split
    · exact ⟨List.prefix_refl _, List.prefix_append _ _⟩
    · rw [if_neg (show ¬ b.length = 0 by omega)]
      refine ⟨List.prefix_append _ _, ?_⟩
      exact (List.prefix_append_right_inj _).2 (List.take_prefix _ _)
theorem Grown.zero {m : FM} (h : m.chs = []) : Grown m := .inl h
theorem Grown.add {m : FM} (h : Grown m) (l : List Nat) : Grown (addM m l) ∧ (addM m l).safe = m.safe := by
  unfold addM
  split
  · exact ⟨h, rfl⟩
  · rename_i hl
    refine ⟨.inr ?_, rfl⟩
    rcases h with h | ⟨b, t, h, hb⟩
    · refine ⟨l, 0, ?_, by omega⟩
      show addC m.chs l = _
      rw [h]
      rfl
    · refine ⟨b ++ l, t, ?_, by rw [List.length_append]; omega⟩
      show addC m.chs l = _
      rw [h]
      unfold addC
      show (if b.length = 0 then _ else _) = _
      rw [if_neg (by omega)]
      rfl

/-- The pick of -1 is all there is. -/
theorem pickM_minus {ps : List Int} {i : Nat} (h : ps[i]? = some (-1)) (ch : Nat) : pickM ps i ch = ch := by
  unfold pickM
  rw [h]
  show (((-1 : Int).tmod ((ch : Int) + 1) + ((ch : Int) + 1)).tmod ((ch : Int) + 1)).toNat = ch
  by_cases hc : ch = 0
  · subst hc
    rfl
  · have e1 : (-1 : Int).tmod ((ch : Int) + 1) = -1 := by
      rw [Int.neg_tmod, Int.tmod_eq_of_lt (by omega) (by omega)]
    rw [e1, show (-1 : Int) + ((ch : Int) + 1) = (ch : Int) by omega, Int.tmod_eq_of_lt (by omega) (by omega)]
    omega
theorem pickM_none {ps : List Int} {i : Nat} (h : ps[i]? = none) (ch : Nat) : pickM ps i ch = 0 := by
  unfold pickM
  rw [h]
end Go.Proofs.Ytbnlgohaaadgeaa

/- DiskSafe: appends behind what is safe, on the whole disk. -/
namespace Go.Proofs.Ytbnlgohaaadgeaa
open Go.RowKit Go.Maps Go.Sort Go.Joins
set_option maxRecDepth 100000
set_option maxRecDepth 100000

/-- A name made anew: what stands at a name. -/
theorem made_at {D : DataW Nat} {n m : Nat} (hE : Ents m D) (s : ByteArray) (hs : s.size ≠ 0) {k : List UInt8} {b : Nat} (h : ((Mov.mk (some n) ⟨#[]⟩ s).on D).atKey (.string k) .nil = .held b) :
    (k = s.data.toList ∧ b = n) ∨ (k ≠ s.data.toList ∧ D.atKey (.string k) .nil = .held b) := by
  have eOn : (Mov.mk (some n) ⟨#[]⟩ s).on D = (D.del (.string ([] : List UInt8))).put (.string s.data.toList) (.held n) := if_neg hs
  rw [eOn] at h
  by_cases hk : k = s.data.toList
  · subst hk
    rw [atKey_put_same (hE.del _).tidy.isMap (litS _)] at h
    cases h
    exact .inl ⟨rfl, rfl⟩
  · rw [atKey_put_other (fun e => hk (by cases e; rfl))] at h
    refine .inr ⟨hk, ?_⟩
    by_cases h0 : k = []
    · subst h0
      rw [atKey_del_same] at h
      cases h
    · rw [atKey_del_other (fun e => h0 (by cases e; rfl))] at h
      exact h
theorem Ents.at_lt {n : Nat} {D : DataW Nat} (h : Ents n D) {k : Lit} {b : Nat} (e : D.atKey k .nil = .held b) : b < n := by
  rcases h.files k with q | ⟨i, hi, q⟩
  · rw [q] at e; cases e
  · rw [q] at e; cases e; exact hi
theorem made_old {D : DataW Nat} {n : Nat} (s : ByteArray) (hs : s.size ≠ 0) {m : Nat} (hE : Ents m D) {k : List UInt8} {b : Nat} (hk : D.atKey (.string k) .nil = .held b) (hn : ∀ c, D.atKey (.string s.data.toList) .nil ≠ .held c) : ((Mov.mk (some n) ⟨#[]⟩ s).on D).atKey (.string k) .nil = .held b := by
  have eOn : (Mov.mk (some n) ⟨#[]⟩ s).on D = (D.del (.string ([] : List UInt8))).put (.string s.data.toList) (.held n) := if_neg hs
  rw [eOn]
  have h1 : k ≠ s.data.toList := fun e => by subst e; exact hn b hk
  have h0 : k ≠ [] := fun e => by
    subst e
    obtain ⟨es, e, _, hall⟩ := hE
    subst e
    have hh := at_has hk
    simp only [has] at hh
    obtain ⟨q, hq, hs'⟩ := List.any_eq_true.1 hh
    obtain ⟨t, ht, e1, _⟩ := hall q hq
    rw [e1] at hs'
    have := (okN_size ht).1
    have hd : t.data.toList = [] := by simpa [Lit.sameKey] using hs'
    have : t.size = 0 := by
      show t.data.size = 0
      rw [← Array.length_toList, hd]
      rfl
    omega
  rw [atKey_put_other (fun e => h1 (by cases e; rfl)), atKey_del_other (fun e => h0 (by cases e; rfl))]
  exact hk

/-- q is p with nothing but appends since all was safe. -/
structure Apps (p q : DM) : Prop where
  safe : q.safe = p.safe
  ms : ∀ (j : Nat) (m : Mov), q.ms[j]? = some m → ∃ f s, m = ⟨some f, ⟨#[]⟩, s⟩ ∧ s.size ≠ 0 ∧ ∀ b, (movesOn q.safe (q.ms.take j)).atKey (.string s.data.toList) .nil ≠ .held b
  grown : ∀ s b, q.seen.atKey (.string s) .nil = .held b → Grown (q.fm b)
  kept : ∀ s b, p.safe.atKey (.string s) .nil = .held b → (q.fm b).safe = (p.fm b).safe ∧ q.seen.atKey (.string s) .nil = .held b
  calm : Calm q
theorem Apps.stroke {p q : DM} (h : Apps p q) : Apps p (strokeM q) := ⟨h.safe, h.ms, h.grown, h.kept, h.calm.stroke⟩
theorem Apps.app {p q : DM} {n T : Nat} (h : Apps p q) (hI : Inv q n T) (s : ByteArray) (l : List Nat) : Apps p (appD q s l n).1 := by
  have hE := hI.ents
  obtain ⟨x, e, hf⟩ : ∃ x e, findM q.off q.seen s = (x, e) := ⟨_, _, rfl⟩
  unfold appD
  rw [hf]
  cases x with
  | some b =>
    show Apps p (if fullM (strokeM q) l.length then (strokeM q, orE (strokeE q)) else ({ strokeM q with fm := put1 q.fm b (addM (q.fm b) l) }, strokeE q)).1
    split
    · exact h.stroke
    · have hat := (findM_ok hf).2.2
      refine ⟨h.safe, h.ms, fun t c hc => ?_, fun t c hc => ?_, h.calm.stroke⟩
      · show Grown (put1 q.fm b (addM (q.fm b) l) c)
        by_cases hcb : c = b
        · subst hcb
          rw [put1_at]
          exact ((h.grown _ _ hat).add l).1
        · rw [put1_ne _ _ hcb]
          exact h.grown t c hc
      · obtain ⟨k1, k2⟩ := h.kept t c hc
        refine ⟨?_, k2⟩
        show (put1 q.fm b (addM (q.fm b) l) c).safe = _
        by_cases hcb : c = b
        · subst hcb
          rw [put1_at, ((h.grown _ _ hat).add l).2]
          exact k1
        · rw [put1_ne _ _ hcb]
          exact k1
  | none =>
    show Apps p (if e = 42 then _ else _ : DM × Nat).1
    split
    · rename_i e42
      subst e42
      obtain ⟨hok, _, hno⟩ := findM_none_ok hf
      have hs0 : s.size ≠ 0 := by have := (okN_size hok).1; omega
      split
      · exact h
      · split
        · exact h.stroke
        · refine ⟨h.safe, fun j m hj => ?_, fun t c hc => ?_, fun t c hc => ?_, h.calm.stroke⟩
          · have hj : (q.ms ++ [(⟨some n, ⟨#[]⟩, s⟩ : Mov)])[j]? = some m := hj
            show ∃ f s', m = ⟨some f, ⟨#[]⟩, s'⟩ ∧ s'.size ≠ 0 ∧ ∀ b, (movesOn q.safe ((q.ms ++ [(⟨some n, ⟨#[]⟩, s⟩ : Mov)]).take j)).atKey (.string s'.data.toList) .nil ≠ .held b
            by_cases hjl : j < q.ms.length
            · rw [List.getElem?_append_left hjl] at hj
              rw [List.take_append_of_le_length (by omega)]
              exact h.ms j m hj
            · have hje : j = q.ms.length := by
                have := (List.getElem?_eq_some_iff.1 hj).1
                rw [List.length_append] at this
                simp at this
                omega
              subst hje
              rw [List.getElem?_append_right (Nat.le_refl _)] at hj
              simp at hj
              subst hj
              refine ⟨n, s, rfl, hs0, ?_⟩
              rw [List.take_append_of_le_length (Nat.le_refl _), List.take_length, ← hI.seen]
              exact hno
          · show Grown (put1 q.fm n (addM m0 l) c)
            have hc : ((Mov.mk (some n) ⟨#[]⟩ s).on q.seen).atKey (.string t) .nil = .held c := hc
            rcases made_at hE s hs0 hc with ⟨_, rfl⟩ | ⟨_, hc⟩
            · rw [put1_at]
              exact (Grown.add (m := m0) (.inl rfl) l).1
            · have := hE.at_lt hc
              rw [put1_ne _ _ (by omega)]
              exact h.grown t c hc
          · obtain ⟨k1, k2⟩ := h.kept t c hc
            have := hE.at_lt k2
            refine ⟨?_, made_old s hs0 hE k2 hno⟩
            show (put1 q.fm n (addM m0 l) c).safe = _
            rw [put1_ne _ _ (by omega)]
            exact k1
    · exact h
end Go.Proofs.Ytbnlgohaaadgeaa

/- DiskSafe: what a crash leaves behind appends. -/
namespace Go.Proofs.Ytbnlgohaaadgeaa
open Go.RowKit Go.Maps Go.Sort Go.Joins
set_option maxRecDepth 100000
set_option maxRecDepth 100000

theorem ent_at {n : Nat} {D : DataW Nat} (hE : Ents n D) {e : Lit × DataW Nat} (he : e ∈ entsOf D) : ∃ b, e = (.string (keyB e.1), .held b) ∧ D.atKey (.string (keyB e.1)) .nil = .held b := by
  obtain ⟨_, ok2, _⟩ := hE.names.1.name he
  have hm := hE.names.2
  have hap := hE.names.1.apart
  obtain ⟨es, e', _, hall⟩ := hE
  have hq' : e ∈ es := by rw [e'] at he; exact he
  obtain ⟨_, _, _, i, hi, h3⟩ := hall e hq'
  have e1 : e.1 = .string (keyB e.1) := by
    rw [ok2]
    rfl
  refine ⟨i, ?_, ?_⟩
  · rw [← e1, ← h3]
  · rw [← h3, ← e1, hm]
    exact WideAt.atKey_mem .nil (by rw [ok2]; exact litS _) hap he
theorem at_ent {n : Nat} {D : DataW Nat} (hE : Ents n D) {t : List UInt8} {b : Nat} (h : D.atKey (.string t) .nil = .held b) : ∃ i : Nat, (entsOf D)[i]? = some ((Lit.string t, DataW.held b) : Lit × DataW Nat) := by
  obtain ⟨es, e', _, hall⟩ := hE
  subst e'
  have hh := at_has h
  simp only [has] at hh
  cases hf : es.find? (fun p => p.1.sameKey (.string t)) with
  | none =>
    simp only [DataW.atKey, hf] at h
    cases h
  | some q =>
    simp only [DataW.atKey, hf] at h
    have hq := List.mem_of_find?_eq_some hf
    have hk := List.find?_some hf
    obtain ⟨s, _, e1, _⟩ := hall q hq
    rw [e1] at hk
    have : s.data.toList = t := by simpa [Lit.sameKey] using hk
    obtain ⟨i, hi⟩ := List.mem_iff_getElem?.1 hq
    refine ⟨i, ?_⟩
    show es[i]? = _
    rw [hi, ← h, ← this, ← e1]

/-- A file of an image that is made of names, by its name. -/
theorem idx_at {n : Nat} {D : DataW Nat} (hE : Ents n D) {I : Image} {f : Nat → DataW Nat → List Nat} (hI : ∀ i, I[i]? = ((entsOf D)[i]?).map (fun q => (keyB q.1, f i q.2))) {t : List UInt8} {b : Nat} (h : D.atKey (.string t) .nil = .held b) : ∃ i, idxI I t = some (f i (.held b)) := by
  obtain ⟨i0, h0⟩ := at_ent hE h
  have m0 : I[i0]? = some (t, f i0 (.held b)) := by rw [hI, h0]; rfl
  unfold idxI
  cases hf : I.find? (fun q => q.1 == t) with
  | none =>
    have := List.find?_eq_none.1 hf _ (List.mem_of_getElem? m0)
    simp at this
  | some x =>
    obtain ⟨i, hi⟩ := List.mem_iff_getElem?.1 (List.mem_of_find?_eq_some hf)
    have hk : x.1 = t := by simpa using List.find?_some hf
    refine ⟨i, ?_⟩
    rw [hI] at hi
    cases hx : (entsOf D)[i]? with
    | none => rw [hx] at hi; cases hi
    | some e =>
      rw [hx] at hi
      have hxe : (keyB e.1, f i e.2) = x := by simpa using hi
      obtain ⟨c, e1, e2⟩ := ent_at hE (List.mem_of_getElem? hx)
      have hk' : keyB e.1 = t := by rw [← hk, ← hxe]
      rw [hk', h] at e2
      cases e2
      show some x.2 = _
      rw [← hxe]
      show some (f i e.2) = _
      rw [e1]

theorem seen_ents (p : DM) (i : Nat) : (seenI p)[i]? = ((entsOf p.seen)[i]?).map (fun q => (keyB q.1, (fun (_ : Nat) d => (fileOf p.fm d).all) i q.2)) := by
  unfold seenI
  rw [List.getElem?_map]
theorem crash_ents (p : DM) (ps : List Int) (i : Nat) : (crashI p ps)[i]? = ((entsOf (leftM p ps))[i]?).map (fun q => (keyB q.1, (fun i d => leftB (fileOf p.fm d) ps i) i q.2)) := by
  unfold crashI
  rw [List.getElem?_mapIdx]

/-- Names only come to it. -/
theorem Apps.up {p q : DM} {n T : Nat} (h : Apps p q) (hI : Inv q n T) {t : List UInt8} {b j : Nat} : ∀ k, j ≤ k → k ≤ q.ms.length → (movesOn q.safe (q.ms.take j)).atKey (.string t) .nil = .held b → (movesOn q.safe (q.ms.take k)).atKey (.string t) .nil = .held b := by
  intro k
  induction k with
  | zero =>
    intro hj _ h0
    obtain rfl : j = 0 := by omega
    exact h0
  | succ k ih =>
    intro hj hk h0
    by_cases e : j = k + 1
    · subst e; exact h0
    · have hb := ih (by omega) (by omega) h0
      obtain ⟨m, hm⟩ : ∃ m, q.ms[k]? = some m := ⟨_, List.getElem?_eq_getElem (by omega)⟩
      obtain ⟨f, s, rfl, hs, hno⟩ := h.ms k m hm
      rw [List.take_add_one, hm]
      show (movesOn q.safe (q.ms.take k ++ [(⟨some f, ⟨#[]⟩, s⟩ : Mov)])).atKey _ _ = _
      rw [movesOn_snoc]
      exact made_old s hs (hI.safe.moves (fun m hm => hI.ms m (List.mem_of_mem_take hm))) hb hno
end Go.Proofs.Ytbnlgohaaadgeaa

/- DiskSafe: what a crash leaves behind appends, by the law's four questions. -/
namespace Go.Proofs.Ytbnlgohaaadgeaa
open Go.RowKit Go.Maps Go.Sort Go.Joins
set_option maxRecDepth 100000
set_option maxRecDepth 100000

theorem img_ent {n : Nat} {D : DataW Nat} (hE : Ents n D) {I : Image} {f : Nat → DataW Nat → List Nat} (hI : ∀ i, I[i]? = ((entsOf D)[i]?).map (fun q => (keyB q.1, f i q.2))) {i : Nat} (hi : i < I.length) :
    ∃ b, (entsOf D)[i]? = some ((Lit.string (nmI I i).data.toList, DataW.held b) : Lit × DataW Nat) ∧ D.atKey (.string (nmI I i).data.toList) .nil = .held b ∧ dtI I i = f i (.held b) := by
  obtain ⟨x, hx⟩ : ∃ x, I[i]? = some x := ⟨_, List.getElem?_eq_getElem hi⟩
  have hx' := hx
  rw [hI] at hx'
  cases he : (entsOf D)[i]? with
  | none => rw [he] at hx'; cases hx'
  | some e =>
    rw [he] at hx'
    have hxe : (keyB e.1, f i e.2) = x := by simpa using hx'
    obtain ⟨b, e1, e2⟩ := ent_at hE (List.mem_of_getElem? he)
    obtain ⟨n1, n2⟩ := nmI_at (s := x.1) (l := x.2) hx
    have hnm : (nmI I i).data.toList = keyB e.1 := by
      rw [n1, ← hxe]
    rw [hnm, n2, ← hxe]
    exact ⟨b, by rw [← e1], e2, by rw [e1]⟩

/-- All was safe in p. -/
structure Firm (p : DM) : Prop where
  safe : p.safe = p.seen
  ms : p.ms = []
  chs : ∀ e ∈ entsOf p.seen, (fileOf p.fm e.2).chs = []
theorem Firm.apps {p : DM} (h : Firm p) {n T : Nat} (hI : Inv p n T) (hc : Calm p) : Apps p p := by
  refine ⟨rfl, fun j m hj => ?_, fun s b hb => ?_, fun s b hb => ⟨rfl, by rw [← h.safe]; exact hb⟩, hc⟩
  · rw [h.ms] at hj
    simp at hj
  · obtain ⟨i, hi⟩ := at_ent hI.ents hb
    exact .inl (h.chs _ (List.mem_of_getElem? hi))
theorem all_safe {m : FM} (h : m.chs = []) : m.all = m.safe := by
  unfold FM.all
  rw [h]
  rfl

theorem Apps.was {p q : DM} {n T n0 T0 : Nat} (h : Apps p q) (hI : Inv q n T) (hP : Inv p n0 T0) (hF : Firm p) (ps : List Int) {i : Nat} (hi : i < (seenI p).length) :
    ∃ l, idxI (crashI q ps) (nmI (seenI p) i).data.toList = some l ∧ dtI (seenI p) i <+: l := by
  obtain ⟨b, h1, h2, h3⟩ := img_ent (f := fun _ d => (fileOf p.fm d).all) hP.ents (seen_ents p) hi
  have hb : p.safe.atKey (.string (nmI (seenI p) i).data.toList) .nil = .held b := by rw [hF.safe]; exact h2
  obtain ⟨k1, k2⟩ := h.kept _ _ hb
  have hl : (leftM q ps).atKey (.string (nmI (seenI p) i).data.toList) .nil = .held b := by
    unfold leftM
    refine h.up hI (j := 0) _ (Nat.zero_le _) (pickM_le _ _ _) ?_
    show q.safe.atKey _ _ = _
    rw [h.safe]
    exact hb
  obtain ⟨j, hj⟩ := idx_at (f := fun i d => leftB (fileOf q.fm d) ps i) (hI.left ps).1 (crash_ents q ps) hl
  refine ⟨_, hj, ?_⟩
  rw [h3]
  show (p.fm b).all <+: leftB (q.fm b) ps j
  have hc : (p.fm b).chs = [] := hF.chs _ (List.mem_of_getElem? h1)
  rw [all_safe hc, ← k1]
  exact ((h.grown _ _ k2).aft _).1
theorem Apps.now {p q : DM} {n T : Nat} (h : Apps p q) (hI : Inv q n T) (ps : List Int) {i : Nat} (hi : i < (crashI q ps).length) :
    ∃ l, idxI (seenI q) (nmI (crashI q ps) i).data.toList = some l ∧ dtI (crashI q ps) i <+: l := by
  obtain ⟨b, h1, h2, h3⟩ := img_ent (f := fun i d => leftB (fileOf q.fm d) ps i) (hI.left ps).1 (crash_ents q ps) hi
  have hs : q.seen.atKey (.string (nmI (crashI q ps) i).data.toList) .nil = .held b := by
    have := h.up hI (j := pickM ps 0 q.ms.length) q.ms.length (pickM_le _ _ _) (Nat.le_refl _) h2
    rw [List.take_length, ← hI.seen] at this
    exact this
  obtain ⟨j, hj⟩ := idx_at (f := fun _ d => (fileOf q.fm d).all) hI.ents (seen_ents q) hs
  refine ⟨_, hj, ?_⟩
  rw [h3]
  exact ((h.grown _ _ hs).aft _).2
theorem Apps.none {p q : DM} {n0 T0 : Nat} (h : Apps p q) (hP : Inv p n0 T0) (hF : Firm p) : crashI q [] = seenI p := by
  refine List.ext_getElem? fun i => ?_
  have e : leftM q [] = p.seen := by
    show q.safe = p.seen
    rw [h.safe, hF.safe]
  rw [crash_ents, seen_ents, e]
  cases hx : (entsOf p.seen)[i]? with
  | none => rfl
  | some x =>
    obtain ⟨b, e1, e2⟩ := ent_at hP.ents (List.mem_of_getElem? hx)
    show some (keyB x.1, leftB (fileOf q.fm x.2) [] i) = some (keyB x.1, (fileOf p.fm x.2).all)
    have hc := hF.chs _ (List.mem_of_getElem? hx)
    obtain ⟨k1, _⟩ := h.kept _ b (by rw [hF.safe]; exact e2)
    rw [e1] at hc ⊢
    show some (_, leftB (q.fm b) [] i) = some (_, (p.fm b).all)
    have hc : (p.fm b).chs = [] := hc
    rw [all_safe hc, ← k1]
    unfold leftB
    rw [pickM_none (by simp), aftM_zero]
theorem Apps.full {p q : DM} {n T : Nat} (_ : Apps p q) (hI : Inv q n T) {ps : List Int} (hps : ∀ i, i ≤ (seenI q).length → ps[i]? = some (-1)) : crashI q ps = seenI q := by
  refine List.ext_getElem? fun i => ?_
  have e : leftM q ps = q.seen := by
    unfold leftM
    rw [pickM_minus (hps 0 (Nat.zero_le _)), List.take_length, ← hI.seen]
  rw [crash_ents, seen_ents, e]
  cases hx : (entsOf q.seen)[i]? with
  | none => rfl
  | some x =>
    have hi : i < (seenI q).length := by
      unfold seenI
      rw [List.length_map]
      exact (List.getElem?_eq_some_iff.1 hx).1
    show some (keyB x.1, leftB (fileOf q.fm x.2) ps i) = some (keyB x.1, (fileOf q.fm x.2).all)
    unfold leftB
    rw [pickM_minus (hps (i + 1) (by omega)), aftM_all _ _ _ (Nat.le_refl _)]
    rfl
end Go.Proofs.Ytbnlgohaaadgeaa

/- DiskSafe: begins. -/
namespace Go.Proofs.Ytbnlgohaaadgeaa
open Go.RowKit Go.Maps Go.Sort Go.Joins
set_option maxRecDepth 100000
set_option maxRecDepth 100000

set_option maxHeartbeats 1600000 in
theorem begins_is {w : World} {l m : List Nat} (ba aa : Option Addr) (bc ac : Nat) (hb : BL w ba l) (ha : BL w aa m) (hp : m <+: l) (hc : l.length ≤ bc) (hl : l.length ≤ 4194304) :
    Calls Try.prog 24 #[.slice ba l.length bc, .slice aa m.length ac] w fun e w' => e = .returned (.bool true) ∧ ∃ k, w' = w.drewN k := by
  obtain ⟨r, rfl⟩ := hp
  have h1 : BL w ba m := fun j hj => by
    obtain ⟨b, off, e, hcell⟩ := hb j (by rw [List.length_append]; omega)
    refine ⟨b, off, e, ?_⟩
    rw [hcell]
    show some (Value.int .u8 (((m ++ r).getD j 0 : Nat) : Int)) = some (Value.int .u8 ((m.getD j 0 : Nat) : Int))
    rw [List.getD_eq_getElem?_getD, List.getD_eq_getElem?_getD, List.getElem?_append_left hj]
  have hml : m.length ≤ (m ++ r).length := by rw [List.length_append]; omega
  have HEQ : Hid (∀ W, W = w → Calls Try.prog 21 #[.slice ba m.length bc, .slice aa m.length ac] W fun e w' => e = .returned (.bool true) ∧ ∃ k, w' = w.drewN k) := fun W hW => by
    subst hW
    exact eq_same ba aa m.length bc ac (fun j => m.getD j 0) W h1 ha (by omega)
  generalize (m ++ r).length = n at *
  generalize m.length = k at *
  have hz1 : (k : Int) ≤ (n : Int) := by omega
  have hz2 : (k : Int) ≤ (bc : Int) := by omega
  have hz3 : k ≤ bc := by omega
  clear hb ha h1
  go_enter Try.func24, Try.ntmps24
  go_wp2_with fail
  refine (HEQ.out w rfl).mono ?_
  rintro e w1 ⟨rfl, q, hw⟩
  have HW : Hid (w1 = w.drewN q) := hw
  clear hw
  go_wp2_with fail
  go_ret
  exact ⟨rfl, q, HW.out⟩
end Go.Proofs.Ytbnlgohaaadgeaa

/- The images of seen and Crash with their caps. -/
namespace Go.Proofs.Ytbnlgohaaadgeaa
open Go.RowKit Go.Maps Go.Sort Go.Joins
set_option maxRecDepth 100000
set_option maxRecDepth 100000

def ImgC (w : World) (a : Option Addr) (I : Image) : Prop := ∀ i, i < I.length → ∃ b o, a = some ⟨b, o, none⟩ ∧ w.cell? ⟨b, o + i * 2, none⟩ = some (.string (nmI I i)) ∧ ∃ da dc, w.cell? ⟨b, o + i * 2 + 1, none⟩ = some (.slice da (dtI I i).length dc) ∧ BL w da (dtI I i) ∧ (dtI I i).length ≤ dc
theorem ImgC.img {w : World} {a : Option Addr} {I : Image} (h : ImgC w a I) : ImgI w a I := fun i hi => by
  obtain ⟨b, o, e, h1, da, dc, h2, h3, _⟩ := h i hi
  exact ⟨b, o, e, h1, da, dc, h2, h3⟩
theorem Sn.liesC {w wx : World} {a : Option Addr} {k c : Nat} {I : Image} {dv : Nat → Value} (h : Sn w wx (.slice a k c) k I dv) (hk : k = I.length) : Lies w.heap.size wx.heap.size wx (fun W => ImgC W a I) := by
  refine ⟨Nat.le_refl _, fun W hW i hi => ?_⟩
  have hi : i < k := by rw [hk]; exact hi
  rcases h.own.2 with ⟨e, h0⟩ | ⟨g, cap, cur, e, hbase, _⟩
  · omega
  · have ea : a = some ⟨g, 0, none⟩ := by injection e
    have hglt : g < wx.heap.size := (rows_lt h.own g (by rw [e]; rfl)).2
    obtain ⟨q1, q2⟩ := fbL_at I dv k i hi
    have hl := fbL_len I dv k
    have own' := h.own
    rw [e] at own'
    have c1 : wx.cell? ⟨g, i * 2, none⟩ = some (.string (nmI I i)) := by rw [World.ownsRow.cellAt own' (i * 2) (by omega)]; exact q1
    have c2 : wx.cell? ⟨g, i * 2 + 1, none⟩ = some (dv i) := by rw [World.ownsRow.cellAt own' (i * 2 + 1) (by omega)]; exact q2
    have hc : ∀ j x, wx.cell? ⟨g, j, none⟩ = some x → W.cell? ⟨g, j, none⟩ = some x := fun j x hx => by
      rw [World.cell?_of_block (a := ⟨g, j, none⟩) (hW g hbase hglt)]; exact hx
    have hd := h.data i hi
    have hd' : OwnL W w.heap.size (dv i) (dtI I i) := hd.on (fun b e => hW b (hd.lt b e).1 (hd.lt b e).2)
    obtain ⟨a', c', ev, hle, hbl, _⟩ := hd'.bl
    refine ⟨g, 0, ea, by rw [Nat.zero_add]; exact hc _ _ c1, a', c', ?_, hbl, hle⟩
    rw [Nat.zero_add]
    show W.cell? ⟨g, i * 2 + 1, none⟩ = some (.slice a' (dtI I i).length c')
    rw [← ev]
    exact hc _ _ c2


set_option maxHeartbeats 3200000 in
theorem seen_cap {w : World} {B db : Nat} {p : DM} {n T : Nat} {F : Nat → Prop} (h : DK w B db p n T F) (hT : T ≤ 1099511627000) :
    Calls Try.prog 11 #[.pointer (some ⟨db, 0, none⟩)] w fun e w' => ∃ a c, e = .returned (.slice a (lookI p).length c) ∧ Lies w.heap.size w'.heap.size w' (fun W => ImgC W a (lookI p)) ∧ Below w.heap.size w w' := by
  obtain ⟨S, HS⟩ : ∃ S : Value → World → Prop, Hid (∀ v W, S v W ↔ ∃ a c, v = .slice a (lookI p).length c ∧ Lies w.heap.size W.heap.size W (fun W => ImgC W a (lookI p)) ∧ Below w.heap.size w W) := ⟨_, fun _ _ => Iff.rfl⟩
  refine Calls.mono (?_ : Calls _ _ _ _ fun e w' => ∃ v, e = .returned v ∧ S v w') (fun e w' ⟨v, he, hr⟩ => by
    obtain ⟨a, c, ev, q1, q2⟩ := (HS.out v w').1 hr
    exact ⟨a, c, by rw [he, ev], q1, q2⟩)
  by_cases hoff : p.off = true
  · have hl := h.listOff hoff
    have e : lookI p = [] := by unfold lookI; rw [if_pos hoff]
    rw [e] at HS
    have HL : Hid (Calls Try.prog 29 #[.pointer (some ⟨db, 0, none⟩)] w fun e w' => e = .returned (.tuple #[.slice none 0 0, .int .i64 45]) ∧ w' = w) := hl
    have HE : Hid (S (.slice none 0 0) w) := (HS.out _ _).2 ⟨none, 0, rfl, ⟨Nat.le_refl _, fun W _ i hi => absurd hi (Nat.not_lt_zero _)⟩, Below.refl _ _⟩
    clear h hl e HS
    go_enter Try.func11, Try.ntmps11
    go_wp2_with fail
    refine HL.out.mono ?_
    rintro e w1 ⟨rfl, rfl⟩
    go_wp2_with fail
    go_loopg [3, 6] 0 (fun q s3 s6 wx => q = 0 ∧ s3 = .slice none 0 0 ∧ s6 = .int .i64 0 ∧ w1 = wx)
    case atStart => exact ⟨rfl, rfl, rfl, rfl⟩
    case round =>
      obtain ⟨rfl, rfl, rfl, rfl⟩ := hrel
      go_wp2_with fail
      go_ret
      exact ⟨_, rfl, HE.out⟩
  · have hoff : p.off = false := by simpa using hoff
    have hl := h.list hoff
    have hI := h.inv
    have hcnt : (entsOf p.seen).length ≤ 64 := by
      have := hI.cnt
      obtain ⟨es, e, _, _⟩ := hI.ents
      rw [e] at this ⊢
      exact this
    have e : lookI p = seenI p := by unfold lookI; rw [if_neg (by rw [hoff]; simp)]
    rw [e] at HS
    have hlen : (namesI p).length = (seenI p).length := by unfold namesI seenI; rw [List.length_map, List.length_map]
    have hlen2 : (seenI p).length ≤ 64 := by unfold seenI; rw [List.length_map]; exact hcnt
    have HRD : Hid (∀ W i, Below w.heap.size w W → i < (seenI p).length → Calls Try.prog 28 #[.pointer (some ⟨db, 0, none⟩), .string (nmI (seenI p) i)] W fun e w' => ∃ v, e = .returned (.tuple #[v, .int .i64 0]) ∧ OwnL w' W.heap.size v (dtI (seenI p) i) ∧ Below W.heap.size W w') := fun W i hb hi => by
      obtain ⟨q, hq⟩ : ∃ q, (entsOf p.seen)[i]? = some q := ⟨_, List.getElem?_eq_getElem (by unfold seenI at hi; rwa [List.length_map] at hi)⟩
      have hs : (seenI p)[i]? = some (keyB q.1, (fileOf p.fm q.2).all) := by unfold seenI; rw [List.getElem?_map, hq]; rfl
      obtain ⟨e1, e2⟩ := nmI_at hs
      have hr := (h.on hb).read hT (nameB q)
      rw [readM_at hI hoff (List.mem_of_getElem? hq)] at hr
      rw [e1, e2]
      exact hr
    have HNM : Hid (∀ i, i < (seenI p).length → (namesI p)[i]? = some (((seenI p).map (·.1)).getD i [])) := fun i hi => by
      have : (seenI p).map (·.1) = namesI p := by unfold seenI namesI; rw [List.map_map]; rfl
      rw [this, List.getD, List.getElem?_eq_getElem (by omega)]
      rfl
    have HL : Hid (Calls Try.prog 29 #[.pointer (some ⟨db, 0, none⟩)] w fun e w' => ∃ a c, e = .returned (.tuple #[.slice a (seenI p).length c, .int .i64 0]) ∧ Lies w.heap.size w'.heap.size w' (fun W => NamesAt W a (namesI p)) ∧ Below w.heap.size w w') := by rw [hlen] at hl; exact hl
    clear h hl e hI hcnt hlen
    generalize namesI p = NL at *
    generalize seenI p = I at *
    obtain ⟨L, HLL⟩ : ∃ L, Hid (I.length = L) := ⟨_, rfl⟩
    rw [HLL.out] at hlen2
    rw [HLL.out] at HL HRD HNM HS
    go_enter Try.func11, Try.ntmps11
    go_wp2_with fail
    refine HL.out.mono ?_
    rintro e w1 ⟨na, nc, rfl, hnl, hb1⟩
    clear HL
    have HNL : Hid (NamesAt w1 na NL) := hnl.now
    have HB1 : Hid (Below w.heap.size w w1) := hb1
    clear hnl hb1
    have hS0 : Sn w1 w1 (.slice none 0 0) 0 I (fun _ => .slice none 0 0) := ⟨Below.refl _ _, ⟨rfl, .inl ⟨rfl, rfl⟩⟩, fun i hi => absurd hi (Nat.not_lt_zero _)⟩
    go_wp2_with fail
    go_loopg [3, 6] L (fun q s3 s6 wx => ∃ (i : Nat) (va : Option Addr) (vc : Nat) (dv : Nat → Value), i ≤ L ∧ q = L - i ∧ s6 = .int .i64 i ∧ s3 = .slice va i vc ∧ Sn w1 wx (.slice va i vc) i I dv)
    case atStart => exact ⟨0, none, 0, _, Nat.zero_le _, rfl, rfl, rfl, hS0⟩
    case round =>
      obtain ⟨i, va, vc, dv, hi, rfl, rfl, rfl, hS⟩ := hrel
      clear hS0
      by_cases hlt : i < L
      · have hz : (i : Int) < (L : Int) := by omega
        obtain ⟨g, rfl, hcn⟩ := HNL.out i _ (HNM.out i hlt)
        have hcn : w1.cell? ⟨g, i, none⟩ = some (.string (nmI I i)) := hcn
        have hcr := cel_on hS.below hcn
        have hwi : IntKind.i64.wrap ((i : Int) + 1) = (i : Int) + 1 := by rw [IntKind.wrap_i64]; omega
        have HR : Hid (Calls Try.prog 28 #[.pointer (some ⟨db, 0, none⟩), .string (nmI I i)] wr fun e w' => ∃ xa xn xc, e = .returned (.tuple #[.slice xa xn xc, .int .i64 0]) ∧ w'.cell? ⟨g, i, none⟩ = some (.string (nmI I i)) ∧ ∃ a' c' w3, (Builtin.append_ #[35, 35] 35 #[.slice va i vc, .slice (some ⟨w'.heap.size, 0, none⟩) 1 1]).run Try.prog (w'.alloc (.cells #[.string (nmI I i), .slice xa xn xc] 51)) = .ok (.slice a' (i + 1) c') w3 ∧ (∃ dv', Sn w1 w3 (.slice a' (i + 1) c') (i + 1) I dv')) := by
          refine (HRD.out wr i (HB1.out.trans (hS.below.mono HB1.out.size)) hlt).mono fun e w' ⟨v, he, ho, hb⟩ => ?_
          obtain ⟨xa, xc, rfl, _, _, _⟩ := ho.bl
          have ho' : OwnL w' w1.heap.size (.slice xa (dtI I i).length xc) (dtI I i) := by
            refine ⟨ho.1, ?_⟩
            rcases ho.2 with q | ⟨g', cap, cur, e1, e2, e3⟩
            · exact .inl q
            · exact .inr ⟨g', cap, cur, e1, Nat.le_trans hS.below.size e2, e3⟩
          have hS' := hS.on hb
          obtain ⟨a', c', w3, hr, hS3⟩ := hS'.push (by omega) ho'
          exact ⟨xa, (dtI I i).length, xc, he, cel_on hb hcr, a', c', w3, hr, ⟨_, hS3⟩⟩
        clear HRD HNM hS hcn HNL HS
        generalize nmI I i = s at *
        go_wp2_with fail
        refine HR.out.mono ?_
        rintro e w2 ⟨xa, xn, xc, rfl, hc2, a', c', w3, hrun, hS3⟩
        have HRUN : Hid _ := hrun
        have HS3 : Hid _ := hS3
        clear HR hrun hS3 hcr
        go_wp2_with (at_builtin; refine wpList_append_eq rfl _ _ 35 rfl _ _ _ (by rfl) (by rfl) HRUN.out ?_)
        obtain ⟨dv', hS3⟩ := HS3.out
        go_roundg (L - (i + 1))
        case measure => go_light; omega
        case rel => go_light; exact ⟨i + 1, _, _, dv', by omega, rfl, by simp, rfl, hS3⟩
      · obtain rfl : i = L := by omega
        have HF : Hid (S (.slice va i vc) wr) := (HS.out _ _).2 ⟨va, vc, rfl, (hS.liesC HLL.out.symm).wide HB1.out.size, HB1.out.trans (hS.below.mono HB1.out.size)⟩
        clear hS HRD HNM HNL HS
        have hz : ¬ ((i : Int) < (i : Int)) := by omega
        go_wp2_with fail
        go_ret
        exact ⟨_, rfl, HF.out⟩

theorem CrG.liesC {w wx : World} {gb cb N : Nat} {es : List (Lit × DataW Nat)} {I : Image} (h : CrG w wx gb cb N es.length es I) (hgb : w.heap.size ≤ gb) (hl : I.length = es.length) : Lies w.heap.size wx.heap.size wx (fun W => ImgC W (some ⟨gb, 0, none⟩) I) := by
  refine ⟨Nat.le_refl _, fun W hW i hi => ?_⟩
  obtain ⟨q, hq⟩ : ∃ q, I[i]? = some q := ⟨_, List.getElem?_eq_getElem hi⟩
  obtain ⟨s, l⟩ := q
  obtain ⟨h1, v, h2, h3, h4⟩ := h.done i s l (by omega) hq
  obtain ⟨e1, e2⟩ := nmI_at hq
  have hc : ∀ j x, wx.cell? ⟨gb, j, none⟩ = some x → W.cell? ⟨gb, j, none⟩ = some x := fun j x hx => by
    rw [World.cell?_of_block (a := ⟨gb, j, none⟩) (hW gb hgb (World.block_lt_of_cell? _ _ hx))]
    exact hx
  have h3' : OwnL W w.heap.size v l := h3.on (fun k e => hW k (h3.lt k e).1 (h3.lt k e).2)
  obtain ⟨a', c', ev, hle, hbl, _⟩ := h3'.bl
  refine ⟨gb, 0, rfl, ?_, a', c', ?_, ?_, by rw [e2]; exact hle⟩
  · rw [Nat.zero_add, e1]; exact hc _ _ h1
  · show W.cell? ⟨gb, 0 + i * 2 + 1, none⟩ = some (.slice a' (dtI I i).length c')
    rw [Nat.zero_add, e2, ← ev]; exact hc _ _ h2
  · show Byt W a' (dtI I i).length (fun j => (dtI I i).getD j 0)
    rw [e2]; exact hbl


set_option maxHeartbeats 3200000 in
theorem crash_genC {w : World} {B db sb nb N : Nat} {dm : DM} {mv : Value} {fs : List Nat} {fv : Nat → FV} (h : DiskIs w B db sb nb N dm mv fs fv) (hok : ∀ (i : Nat) (m : Mov), dm.ms[i]? = some m → m.ok) (hN : N + dm.ms.length ≤ 1099511627776) (ps : List Int) (pa : Option Addr) (pc : Nat) (hp : PicksL w pa ps) {es : List (Lit × DataW Nat)} (hes : movesOn dm.safe (dm.ms.take (pickM ps 0 dm.ms.length)) = .map es) (hnm : NamesE es) (hlen : es.length ≤ 64)
    (hfl : ∀ q ∈ es, ∃ fb, q.2 = .held fb ∧ fb ∈ fs ∧ (dm.fm fb).fit ∧ unitsM (dm.fm fb).chs ≤ 1099511627776) :
    Calls Try.prog 12 #[.pointer (some ⟨db, 0, none⟩), .slice pa ps.length pc] w fun e w' => ∃ g, e = .returned (.slice (some ⟨g, 0, none⟩) es.length es.length) ∧ Lies w.heap.size w'.heap.size w' (fun W => ImgC W (some ⟨g, 0, none⟩) (es.mapIdx (fun i q => (keyB q.1, leftB (fileOf dm.fm q.2) ps i)))) ∧ Below w.heap.size w w' := by
  have c3 : w.cell? ⟨db, 3, none⟩ = some mv := h.row.cell (i := 3) (by decide)
  obtain ⟨ma, mc, emv⟩ : ∃ a c, mv = .slice a dm.ms.length c := by
    rcases h.mow.2 with ⟨e, h0⟩ | ⟨g, cc, cur, e, _⟩
    · exact ⟨none, 0, by rw [e]; have h0 : dm.ms.length = 0 := h0; rw [h0]⟩
    · exact ⟨_, cc, e⟩
  have HP : Hid (∀ W i ch, Below w.heap.size w W → ch ≤ 1099511627776 → Calls Try.prog 39 #[.slice pa ps.length pc, .int .i64 ((i : Nat) : Int), .int .i64 ((ch : Nat) : Int)] W fun e w' => e = .returned (.int .i64 (pickM ps i ch : Nat)) ∧ w' = W) := fun W i ch hb hc => pick_any pa pc ps i ch W (hp.on hb) hc
  have HP0 : Hid (∀ W, Below w.heap.size w W → Calls Try.prog 39 #[.slice pa ps.length pc, .int .i64 0, .int .i64 ((dm.ms.length : Nat) : Int)] W fun e w' => e = .returned (.int .i64 (pickM ps 0 dm.ms.length : Nat)) ∧ w' = W) := fun W hb => pick_any pa pc ps 0 _ W (hp.on hb) (by omega)
  have hk := pickM_le ps 0 dm.ms.length
  have HA : Hid (∀ W, Below w.heap.size w W → Calls Try.prog 38 #[.pointer (some ⟨db, 1, none⟩), .int .i64 (pickM ps 0 dm.ms.length : Nat)] W fun e w' => ∃ cb, e = .returned (.map (some cb)) ∧ w'.ownsMap Try.prog 9 Rf cb (N + dm.ms.length) (.map es) ∧ Below W.heap.size W w') := fun W hb => by
    have hW := h.on hb
    refine (namesAfterK hW.row (by decide) rfl rfl hW.mow hW.safe hN hok (pickM ps 0 dm.ms.length) hk).mono fun e w' ⟨cb, he, hm, _, hbb⟩ => ⟨cb, he, ?_, hbb⟩
    rw [hes] at hm
    exact map_wide hm (by omega)
  have HF : Hid (∀ W q, Below w.heap.size w W → q ∈ es → ∃ fb, q.2 = .held fb ∧ Calls Try.prog 42 #[.pointer (some ⟨fb, 0, none⟩)] W (fun e w' => e = .returned (.int .i64 (unitsM (fileOf dm.fm q.2).chs : Nat)) ∧ Below W.heap.size W w') ∧ unitsM (fileOf dm.fm q.2).chs ≤ 1099511627776 ∧ ∀ n, n ≤ 1099511627776 → Calls Try.prog 41 #[.pointer (some ⟨fb, 0, none⟩), .int .i64 (n : Nat)] W (fun e w' => ∃ v, e = .returned v ∧ OwnL w' W.heap.size v (aftM (fileOf dm.fm q.2).safe (fileOf dm.fm q.2).chs n) ∧ Below W.heap.size W w')) := fun W q hb hq => by
    obtain ⟨fb, e, hf, hfit, hU⟩ := hfl q hq
    have hFi := (h.files fb hf).on hb
    have ef : fileOf dm.fm q.2 = dm.fm fb := by rw [e]; rfl
    rw [ef]
    obtain ⟨q1, q2, q3, q4⟩ := hfit
    refine ⟨fb, e, units_any hFi hU, hU, fun n hn => ?_⟩
    exact after_any hFi q1 q2 q3 n (by omega)
  have HI : Hid (NamesE es) := hnm
  obtain ⟨I, HIm⟩ : ∃ I, Hid (es.mapIdx (fun i q => (keyB q.1, leftB (fileOf dm.fm q.2) ps i)) = I) := ⟨_, rfl⟩
  have HIl : Hid (I.length = es.length) := by rw [← HIm.out]; exact List.length_mapIdx
  have HIa : Hid (∀ i q, es[i]? = some q → I[i]? = some (keyB q.1, leftB (fileOf dm.fm q.2) ps i)) := fun i q hq => by
    rw [← HIm.out, List.getElem?_mapIdx, hq]
    rfl
  rw [HIm.out]
  clear h hp hnm hok hfl hes hk HIm
  subst emv
  generalize pickM ps 0 dm.ms.length = K at *
  generalize dm.ms.length = ML at *
  have b0 : Below w.heap.size w w := Below.refl _ _
  have b0d : Below w.heap.size w w.drew := (Below.refl _ _).drew
  go_enter Try.func12, Try.ntmps12
  go_upto_region 1 with fail
  go_region_held3 (fun W => W.cell? ⟨db, 3, none⟩ = some (.slice ma ML mc))
    (first | exact c3 | exact cel_on hbA c3)
    (first
      | (go_at_call 39; refine (HP0.out _ (by first | exact b0 | exact b0d)).mono ?_; rintro e w1 ⟨rfl, rfl⟩)
      | (go_at_call 38; refine (HA.out _ (by first | exact b0 | exact b0d)).mono ?_; rintro e w2 ⟨cb, rfl, hmp, hbA⟩))
  all_goals
    have hb2 : Below w.heap.size w w2 := b0d.trans hbA
    have hlen2 := hmp.len Try.underlying74 3
    rw [size_eq] at hlen2
    obtain ⟨W3, hmk, hb3, hrow, hz3⟩ := made_fb w2 es.length (by omega)
    have hmk' := hmk .i64 .i64
    have hmp3 := map_on hmp hb3
    have HSO : Hid (Calls Try.prog 40 #[.map (some cb)] W3 fun e w' => ∃ a c, e = .returned (.slice a es.length c) ∧ (∀ (i : Nat) (q : Lit × DataW Nat), es[i]? = some q → ∃ g, a = some ⟨g, 0, none⟩ ∧ w'.cell? ⟨g, i, none⟩ = some (.string (nameB q)) ∧ W3.heap.size ≤ g) ∧ Below W3.heap.size W3 w') := sorted_es hmp3 HI.out (by omega)
    have hC0 : CrG w W3 w2.heap.size cb (N + ML) 0 es I := ⟨hb2.trans (hb3.mono hb2.size), hmp3, hrow, fun k _ _ hk => absurd hk (Nat.not_lt_zero _)⟩
    have HG : Hid (w.heap.size ≤ w2.heap.size ∧ w2.heap.size < W3.heap.size) := ⟨hb2.size, by omega⟩
    clear hmk hmp hmp3 hrow hz3 hb3 hb2 hbA c3
    obtain ⟨n, hn⟩ : ∃ n, es.length = n := ⟨_, rfl⟩
    rw [hn] at hmk' HSO hlen2
    go_wp2_with fail
    refine HSO.out.mono ?_
    rintro e w4 ⟨a, c, rfl, hnames, hb4⟩
    have hC4 := hC0.on hb4
    have HG4 : Hid (w.heap.size ≤ w2.heap.size ∧ w2.heap.size < w4.heap.size) := ⟨HG.out.1, Nat.lt_of_lt_of_le HG.out.2 hb4.size⟩
    have HN : Hid (∀ (i : Nat) (q : Lit × DataW Nat), es[i]? = some q → ∃ g, a = some ⟨g, 0, none⟩ ∧ w4.cell? ⟨g, i, none⟩ = some (.string (nameB q)) ∧ g ≠ w2.heap.size) := fun i q hi => by
      obtain ⟨g, e, hc, hge⟩ := hnames i q hi
      exact ⟨g, e, hc, by have := HG.out.2; omega⟩
    clear HSO hC0 hnames HG hmk' hlen2
    generalize w2.heap.size = gb at *
    go_wp2_with fail
    go_loopg [28] n (fun q s28 wx => ∃ (i : Nat), i ≤ n ∧ q = n - i ∧ s28 = .int .i64 i ∧ CrG w wx gb cb (N + ML) i es I ∧ gb < wx.heap.size ∧ ∀ (i : Nat) (q : Lit × DataW Nat), es[i]? = some q → ∃ g, a = some ⟨g, 0, none⟩ ∧ wx.cell? ⟨g, i, none⟩ = some (.string (nameB q)) ∧ g ≠ gb)
    case atStart => exact ⟨0, Nat.zero_le _, rfl, rfl, hC4, HG4.out.2, HN.out⟩
    case round =>
      obtain ⟨i, hi, rfl, rfl, hC, hgl, hnm⟩ := hrel
      have HNM : Hid (∀ (i : Nat) (q : Lit × DataW Nat), es[i]? = some q → ∃ g, a = some ⟨g, 0, none⟩ ∧ wr.cell? ⟨g, i, none⟩ = some (.string (nameB q)) ∧ g ≠ gb) := hnm
      have hgb := HG4.out.1
      clear hnm hC4 HN HG4
      by_cases hlt : i < n
      · have hz : (i : Int) < (n : Int) := by omega
        obtain ⟨q, hq⟩ : ∃ q, es[i]? = some q := ⟨_, List.getElem?_eq_getElem (by omega)⟩
        obtain ⟨g, rfl, hcn, hgn⟩ := HNM.out i q hq
        have hqm := List.mem_of_getElem? hq
        obtain ⟨fb, e2, hu, hUle, haf⟩ := HF.out wr q hC.below hqm
        obtain ⟨ok1, ok2, _⟩ := HI.out.name hqm
        have hat : (DataW.map es).atKey (.string (nameB q).data.toList) .nil = .held fb := by
          rw [← ok2, ← e2]
          refine WideAt.atKey_mem .nil ?_ HI.out.apart hqm
          rw [ok2]; exact litS _
        obtain ⟨v, vps, hlk, hR⟩ := hC.map.lookup strK Try.underlying74 (z := .pointer none) (Try.zeroValue85 wr) (zd := .nil) (zp := []) rfl (key_str (nameB q) (by have := (okN_size ok1).2; omega))
        rw [hat] at hR
        have ev := Rf_inv hR
        subst ev
        have hpk := HP.out wr (i + 1) (unitsM (fileOf dm.fm q.2).chs) hC.below hUle
        have hkle := pickM_le ps (i + 1) (unitsM (fileOf dm.fm q.2).chs)
        have hIq := HIa.out i q hq
        unfold leftB at hIq
        have HAF : Hid (∀ W, Below wr.heap.size wr W → Calls Try.prog 41 #[.pointer (some ⟨fb, 0, none⟩), .int .i64 (pickM ps (i + 1) (unitsM (fileOf dm.fm q.2).chs) : Nat)] W (fun e w' => ∃ v, e = .returned v ∧ OwnL w' W.heap.size v (aftM (fileOf dm.fm q.2).safe (fileOf dm.fm q.2).chs (pickM ps (i + 1) (unitsM (fileOf dm.fm q.2).chs))) ∧ Below W.heap.size W w')) := fun W hb => by
          obtain ⟨fb', e2', _, _, haf'⟩ := HF.out W q (hC.below.trans (hb.mono hC.below.size)) hqm
          have : fb' = fb := by rw [e2] at e2'; injection e2' with q; exact q.symm
          rw [← this]
          exact haf' _ (by omega)
        have HPK : Hid (∀ W, Below wr.heap.size wr W → Calls Try.prog 39 #[.slice pa ps.length pc, .int .i64 ((i : Int) + 1), .int .i64 ((unitsM (fileOf dm.fm q.2).chs : Nat) : Int)] W fun e w' => e = .returned (.int .i64 (pickM ps (i + 1) (unitsM (fileOf dm.fm q.2).chs) : Nat)) ∧ w' = W) := fun W hb => by
          have := HP.out W (i + 1) (unitsM (fileOf dm.fm q.2).chs) (hC.below.trans (hb.mono hC.below.size)) hUle
          have hcast : ((i + 1 : Nat) : Int) = (i : Int) + 1 := by omega
          rwa [hcast] at this
        have HU : Hid (Calls Try.prog 42 #[.pointer (some ⟨fb, 0, none⟩)] wr (fun e w' => e = .returned (.int .i64 (unitsM (fileOf dm.fm q.2).chs : Nat)) ∧ Below wr.heap.size wr w')) := hu
        have hwi : IntKind.i64.wrap ((i : Int) + 1) = (i : Int) + 1 := by rw [IntKind.wrap_i64]; omega
        clear hpk haf hu hkle hUle hat hR HF
        generalize aftM (fileOf dm.fm q.2).safe (fileOf dm.fm q.2).chs (pickM ps (i + 1) (unitsM (fileOf dm.fm q.2).chs)) = L at *
        generalize pickM ps (i + 1) (unitsM (fileOf dm.fm q.2).chs) = K1 at *
        generalize unitsM (fileOf dm.fm q.2).chs = U1 at *
        have HIQ : Hid (I[i]? = some (keyB q.1, L)) := hIq
        clear ok1 ok2 hq e2 hqm hIq
        go_wp2_with fail
        refine HU.out.mono ?_
        rintro e w5 ⟨rfl, hb5⟩
        clear HU hlk
        go_wp2_with fail
        refine (HPK.out w5 hb5).mono ?_
        rintro e w5' ⟨rfl, rfl⟩
        clear HPK
        go_wp2_with fail
        refine (HAF.out _ hb5).mono ?_
        rintro e w6 ⟨v6, rfl, ho6, hb6⟩
        clear HAF hcn
        have hbb := hb5.trans (hb6.mono hb5.size)
        have hC6 := hC.on hbb
        have ho6' : OwnL w6 w.heap.size v6 L := by
          refine ⟨ho6.1, ?_⟩
          have hz5 : w.heap.size ≤ w5'.heap.size := Nat.le_trans hC.below.size hb5.size
          rcases ho6.2 with q | ⟨g', cap, cur, e1, e2, e3⟩
          · exact .inl q
          · exact .inr ⟨g', cap, cur, e1, Nat.le_trans hz5 e2, e3⟩
        have hne6 : v6.ownBlock ≠ some gb := fun e => by
          have := (ho6.lt gb e).1
          have := hb5.size
          omega
        have hst := hC6.store hgb ho6' hne6 HIQ.out (by omega)
        obtain ⟨F, hF2⟩ := hC.row
        rw [hn] at hF2
        have hF6 := hF2.of_block (hbb.block _ hF2.lt)
        have k0 := hF6.cell (i := i * 2) (by omega)
        have f0 := hF6.frozen (i * 2)
        have hF7 := hF6.set (i * 2) (.string (nameB q))
        have k1 := hF7.cell (i := i * 2 + 1) (by omega)
        have f1 := hF7.frozen (i * 2 + 1)
        rw [if_neg (by omega)] at k1
        have hgl6 : gb < w6.heap.size := Nat.lt_of_lt_of_le hgl hbb.size
        obtain ⟨a6, c6, ev6, _, _, _⟩ := ho6.bl
        have HNM6 : Hid (∀ (j : Nat) (p : Lit × DataW Nat), es[j]? = some p → ∃ g', (some ⟨g, 0, none⟩ : Option Addr) = some ⟨g', 0, none⟩ ∧ ((w6.setCell ⟨gb, i * 2, none⟩ (.string (nameB q))).setCell ⟨gb, i * 2 + 1, none⟩ v6).cell? ⟨g', j, none⟩ = some (.string (nameB p)) ∧ g' ≠ gb) := fun j p hj => by
          obtain ⟨g', e, hc', hne⟩ := HNM.out j p hj
          refine ⟨g', e, ?_, hne⟩
          rw [World.cell?_of_block (a := ⟨g', j, none⟩) ((Below.heap_setCell _ _ _ _ hne).trans (Below.heap_setCell _ _ _ _ hne))]
          exact cel_on hbb hc'
        have HST : Hid (CrG w ((w6.setCell ⟨gb, i * 2, none⟩ (.string (nameB q))).setCell ⟨gb, i * 2 + 1, none⟩ v6) gb cb (N + ML) (i + 1) es I) := hst
        clear HNM hC6 hC hb6 hbb hb5 hF2 hF6 hF7 ho6 ho6' hne6 hst HIQ
        subst ev6
        generalize nameB q = s at *
        go_wp2_with fail
        go_roundg (n - (i + 1))
        case measure => go_light; omega
        case rel => go_light; exact ⟨i + 1, by omega, rfl, by simp, HST.out, by simpa [World.setCell] using hgl6, HNM6.out⟩
      · obtain rfl : i = n := by omega
        have HFIN : Hid (Lies w.heap.size wr.heap.size wr (fun W => ImgC W (some ⟨gb, 0, none⟩) I) ∧ Below w.heap.size w wr) := by
          have hC' := hC
          rw [← hn] at hC'
          exact ⟨hC'.liesC hgb HIl.out, hC.below⟩
        clear hC HNM
        have hz : ¬ ((i : Int) < (i : Int)) := by omega
        go_wp2_with fail
        go_ret
        exact ⟨gb, rfl, HFIN.out.1, HFIN.out.2⟩

theorem DK.crashC {w : World} {B db : Nat} {p : DM} {n T : Nat} {F : Nat → Prop} (h : DK w B db p n T F) (hT : T ≤ 1099511627000) (ps : List Int) (pa : Option Addr) (pc : Nat) (hp : PicksL w pa ps) :
    Calls Try.prog 12 #[.pointer (some ⟨db, 0, none⟩), .slice pa ps.length pc] w fun e w' => ∃ g, e = .returned (.slice (some ⟨g, 0, none⟩) (crashI p ps).length (crashI p ps).length) ∧ Lies w.heap.size w'.heap.size w' (fun W => ImgC W (some ⟨g, 0, none⟩) (crashI p ps)) ∧ Below w.heap.size w w' := by
  obtain ⟨hI, sb, nb, N, mv, fs, fv, ρ, d, hD, hR, hfs, hN, rfl⟩ := h
  have hml := hR.mslen
  obtain ⟨hE, hsz⟩ := hI.left ps
  have hes : movesOn d.safe (d.ms.take (pickM ps 0 d.ms.length)) = .map ((entsOf (leftM p ps)).map (renE ρ)) := by
    rw [hR.safe, hR.ms, List.length_map, ← List.map_take, renM_moves ρ _ _ (fun m hm => ((hI.ms m (List.mem_of_mem_take hm)).ok).2.2), ← renD_ents ρ hE]
    rfl
  have hlen : (entsOf (leftM p ps)).length ≤ 64 := by
    obtain ⟨es, e, _, _⟩ := hE
    rw [e] at hsz ⊢
    exact hsz
  have him : ((entsOf (leftM p ps)).map (renE ρ)).mapIdx (fun i q => (keyB q.1, leftB (fileOf d.fm q.2) ps i)) = crashI p ps := by
    unfold crashI
    apply List.ext_getElem?
    intro i
    rw [List.getElem?_mapIdx, List.getElem?_mapIdx, List.getElem?_map, Option.map_map]
    cases hq : (entsOf (leftM p ps))[i]? with
    | none => rfl
    | some q =>
      obtain ⟨_, _, _, _, _, e⟩ := hR.fileAt hE (List.mem_of_getElem? hq)
      show some (keyB q.1, leftB (fileOf d.fm (renE ρ q).2) ps i) = some (keyB q.1, leftB (fileOf p.fm q.2) ps i)
      rw [e]
  have hcl : (crashI p ps).length = (entsOf (leftM p ps)).length := List.length_mapIdx
  refine (crash_genC hD (hR.movOk hI) (by omega) ps pa pc hp hes (hE.names.1.ren ρ) (by rw [List.length_map]; exact hlen) (fun q hq => ?_)).mono fun e w' ⟨g, he, hl, hb⟩ => ⟨g, ?_, ?_, hb⟩
  · obtain ⟨q0, hq0, rfl⟩ := List.mem_map.1 hq
    obtain ⟨i, hi, _, e2, e3, _⟩ := hR.fileAt hE hq0
    have hf := hI.fit i hi
    have hu := unitsM_le (p.fm i).chs
    have := hf.2.2
    exact ⟨ρ i, e2, (hfs _).2 ⟨i, hi, rfl⟩, by rw [e3]; exact hf.fit (by omega), by rw [e3]; omega⟩
  · rw [he, hcl, List.length_map]
  · rw [him] at hl; exact hl

end Go.Proofs.Ytbnlgohaaadgeaa

/- find with caps. -/
namespace Go.Proofs.Ytbnlgohaaadgeaa
open Go.RowKit Go.Maps Go.Sort Go.Joins
set_option maxRecDepth 100000
set_option maxRecDepth 100000

set_option maxHeartbeats 1600000 in
theorem find_cap (a : Option Addr) (c : Nat) (I : Image) (w : World) (hI : ImgC w a I) (hn : I.length ≤ 1000) (s : ByteArray) :
    Calls Try.prog 20 #[.slice a I.length c, .string s] w fun e w' => (∃ da dn dc bb, e = .returned (.tuple #[.slice da dn dc, .bool bb]) ∧ (match idxI I s.data.toList with | some l => dn = l.length ∧ bb = true ∧ (BL w da l ∧ l.length ≤ dc) | none => da = none ∧ dn = 0 ∧ dc = 0 ∧ bb = false)) ∧ w' = w := by
  obtain ⟨S, HS⟩ : ∃ S : Value → Prop, Hid (∀ v, S v ↔ ∃ da dn dc bb, v = .tuple #[.slice da dn dc, .bool bb] ∧ (match idxI I s.data.toList with | some l => dn = l.length ∧ bb = true ∧ (BL w da l ∧ l.length ≤ dc) | none => da = none ∧ dn = 0 ∧ dc = 0 ∧ bb = false)) := ⟨_, fun _ => Iff.rfl⟩
  refine Calls.mono (?_ : Calls _ _ _ _ fun e w' => ∃ v, e = .returned v ∧ S v ∧ w' = w) (fun e w' ⟨v, he, hs, hw⟩ => by
    obtain ⟨da, dn, dc, bb, ev, hm⟩ := (HS.out v).1 hs
    exact ⟨⟨da, dn, dc, bb, by rw [he, ev], hm⟩, hw⟩)
  have HI : Hid (ImgC w a I) := hI
  obtain ⟨N, HN⟩ : ∃ N, Hid (I.length = N) := ⟨_, rfl⟩
  rw [HN.out] at hn ⊢
  clear hI
  go_enter Try.func20, Try.ntmps20
  go_wp2_with fail
  go_loopg [6] N (fun q s6 wx => ∃ (i : Nat), i ≤ N ∧ q = N - i ∧ s6 = .int .i64 i ∧ w = wx ∧ idxI (I.drop i) s.data.toList = idxI I s.data.toList)
  case atStart => exact ⟨0, Nat.zero_le _, rfl, rfl, rfl, rfl⟩
  case round =>
    obtain ⟨i, hi, rfl, rfl, rfl, hix⟩ := hrel
    by_cases hlt : i < N
    · have hz : (i : Int) < (N : Int) := by omega
      have hwi : IntKind.i64.wrap ((i : Int) + 1) = (i : Int) + 1 := by rw [IntKind.wrap_i64]; omega
      obtain ⟨x, hx⟩ : ∃ x, I[i]? = some x := ⟨_, List.getElem?_eq_getElem (by have := HN.out; omega)⟩
      obtain ⟨xs, xl⟩ := x
      obtain ⟨b, o, rfl, h1, da, dc, h2, h3⟩ := HI.out i (by rw [HN.out]; exact hlt)
      obtain ⟨e1, e2⟩ := nmI_at hx
      rw [e1] at h1
      rw [e2] at h2 h3
      have hd := idx_drop (s := s.data.toList) hx
      cases hq : xs == s.data.toList with
      | true =>
        have hd2 : idxI I s.data.toList = some xl := by rw [← hix, hd]; show (if (xs == s.data.toList) = true then _ else _) = _; rw [hq]; rfl
        have HSV : Hid (S (.tuple #[.slice da xl.length dc, .bool true])) := (HS.out _).2 ⟨da, _, dc, true, rfl, by rw [hd2]; exact ⟨rfl, rfl, h3⟩⟩
        have hse : ((⟨xs.toArray⟩ : ByteArray).toList == s.toList) = true := by rw [toList_data, toList_data]; simpa using hq
        clear HS hd hd2 hix h3 e1 e2 hx HI hq
        generalize (⟨xs.toArray⟩ : ByteArray) = nm at *
        generalize xl.length = n at *
        go_wp2_with fail
        go_ret2
        exact ⟨_, rfl, HSV.out, rfl⟩
      | false =>
        have hd2 : idxI (I.drop (i + 1)) s.data.toList = idxI I s.data.toList := by rw [← hix, hd]; show _ = (if (xs == s.data.toList) = true then _ else _); rw [hq]; rfl
        have HD2 : Hid (idxI (I.drop (i + 1)) s.data.toList = idxI I s.data.toList) := hd2
        have hse : ((⟨xs.toArray⟩ : ByteArray).toList == s.toList) = false := by rw [toList_data, toList_data]; simpa using hq
        clear HS hd hd2 hix h3 e1 e2 hx HI hq h2
        generalize (⟨xs.toArray⟩ : ByteArray) = nm at *
        go_wp2_with fail
        go_roundg (N - (i + 1))
        case measure => go_light; omega
        case rel => go_light; exact ⟨i + 1, by omega, rfl, by simp, rfl, HD2.out⟩
    · obtain rfl : i = N := by omega
      have hz : ¬ ((i : Int) < (i : Int)) := by omega
      have hd2 : idxI I s.data.toList = none := by
        rw [← hix, List.drop_eq_nil_of_le (by have := HN.out; omega)]
        rfl
      have HSV : Hid (S (.tuple #[.slice none 0 0, .bool false])) := (HS.out _).2 ⟨none, 0, 0, false, rfl, by rw [hd2]; exact ⟨rfl, rfl, rfl, rfl⟩⟩
      clear HS hd2 hix HI
      go_wp2_with fail
      go_ret2
      exact ⟨_, rfl, HSV.out, rfl⟩

theorem find_someC {a : Option Addr} {c : Nat} {I : Image} {w : World} (hI : ImgC w a I) (hn : I.length ≤ 1000) {s : ByteArray} {l : List Nat} (h : idxI I s.data.toList = some l) :
    Calls Try.prog 20 #[.slice a I.length c, .string s] w fun e w' => (∃ da dc, e = .returned (.tuple #[.slice da l.length dc, .bool true]) ∧ BL w da l ∧ l.length ≤ dc) ∧ w' = w :=
  (find_cap a c I w hI hn s).mono fun e w' ⟨⟨da, dn, dc, bb, he, hm⟩, hw⟩ => by
    rw [h] at hm
    obtain ⟨rfl, rfl, hbl⟩ := hm
    exact ⟨⟨da, dc, he, hbl⟩, hw⟩
theorem ImgC.on {w w' : World} {a : Option Addr} {I : Image} (h : ImgC w a I) (hb : Below w.heap.size w w') : ImgC w' a I := fun i hi => by
  obtain ⟨b, o, e, h1, da, dc, h2, h3, h4⟩ := h i hi
  exact ⟨b, o, e, cel_on hb h1, da, dc, cel_on hb h2, h3.on hb, h4⟩
/-- A file's data beside a beginning of it. -/
theorem Firm.of_shut {p q : DM} (h : Shut p q) : Firm q := ⟨h.safe, h.ms, fun e he => h.chs e (by rw [← h.seen]; exact he)⟩
end Go.Proofs.Ytbnlgohaaadgeaa
