/- bounded: the gaps of a pace that begins. -/
import Derived.Test.YtjmgddaikcpinaaPC3
namespace Go.Proofs.Ytjmgddaikcpinaa
open Go.RowKit
set_option maxRecDepth 100000
set_option maxRecDepth 100000

/-- What is known of a pace between two ticks: l and g its cells, t the times so far, p the last gap, s the ticks since. -/
structure Bd (m i l g t p s : Nat) : Prop where
  z : t = 0 → i = 0 ∧ l = 0 ∧ g = 1 ∧ p = 0 ∧ s = 0
  l1 : 1 ≤ t → 1 ≤ l
  g1 : 1 ≤ t → g = min (2 * (l + s)) m
  c1 : t = 1 → p = 0 ∧ l + s = 1
  c2 : 2 ≤ t → 1 ≤ p ∧ p ≤ m ∧ l + s = min (2 * p) m
  n : 1 ≤ t → i + m ≤ t * m + 1 + s
  ti : t ≤ i
theorem Bd.start (m : Nat) : Bd m 0 0 1 0 0 0 := ⟨fun _ => ⟨rfl, rfl, rfl, rfl, rfl⟩, fun h => by omega, fun h => by omega, fun h => by omega, fun h => by omega, fun h => by omega, Nat.le_refl _⟩
theorem Bd.cur {m i l g t p s : Nat} (h : Bd m i l g t p s) (hm : 1 ≤ m) (ht : 1 ≤ t) : l + s ≤ m ∧ p ≤ l + s ∧ (p = 0 ∨ (l + s ≤ 2 * p ∧ (l + s < m → l + s = 2 * p))) := by
  by_cases h1 : t = 1
  · have := h.c1 h1; omega
  · have := h.c2 (by omega); omega
theorem Bd.no {m i l g t p s : Nat} (h : Bd m i l g t p s) (hm : 1 ≤ m) (hl : 1 < l) : Bd m (i + 1) (tkL l g) (tkG l g m) t p (s + 1) ∧ 1 ≤ t ∧ i ≠ 0 ∧ s + 1 < m := by
  have ht : 1 ≤ t := by
    rcases Nat.eq_zero_or_pos t with e | e
    · have := h.z e; omega
    · exact e
  have hc := h.cur hm ht
  have e1 : tkL l g = l - 1 := if_pos hl
  have e2 : tkG l g m = g := if_pos hl
  rw [e1, e2]
  have hn := h.n ht
  have hg := h.g1 ht
  refine ⟨⟨fun e => by omega, fun _ => by omega, fun _ => by rw [hg]; congr 1; omega, fun e => ?_, fun e => ?_, fun _ => by omega, Nat.le_succ_of_le h.ti⟩, ht, by have := h.ti; omega, by omega⟩
  · have := h.c1 e; omega
  · have := h.c2 e; omega
theorem Bd.yes {m i l g t p s : Nat} (h : Bd m i l g t p s) (hm : 1 ≤ m) (hl : ¬ 1 < l) : Bd m (i + 1) (tkL l g) (tkG l g m) (t + 1) (if 0 < t then s + 1 else p) 0 ∧ (1 ≤ t → l = 1) := by
  have e1 : tkL l g = g := if_neg hl
  have e2 : tkG l g m = min (2 * g) m := if_neg hl
  rw [e1, e2]
  rcases Nat.eq_zero_or_pos t with e | e
  · obtain ⟨rfl, rfl, rfl, rfl, rfl⟩ := h.z e
    subst e
    refine ⟨⟨fun e => by omega, fun _ => by omega, fun _ => rfl, fun _ => ⟨rfl, rfl⟩, fun e => by omega, fun _ => by omega, Nat.le_refl _⟩, fun e => by omega⟩
  · have := h.l1 e
    have hg := h.g1 e
    have hc := h.cur hm e
    have hn := h.n e
    rw [if_pos e]
    have hmul : (t + 1) * m = t * m + m := Nat.succ_mul t m
    refine ⟨⟨fun e => by omega, fun _ => by omega, fun _ => by omega, fun e => by omega, fun _ => by omega, fun _ => by omega, Nat.succ_le_succ h.ti⟩, fun _ => by omega⟩
theorem Bd.ends {m n l g t p s : Nat} (h : Bd m n l g t p s) (hm : 1 ≤ m) : n / m ≤ t := by
  rcases Nat.eq_zero_or_pos t with e | e
  · obtain ⟨rfl, _⟩ := h.z e; simp
  · have hc := h.cur hm e
    have hn := h.n e
    have hl := h.l1 e
    have : n ≤ t * m := by omega
    exact Nat.div_le_of_le_mul (by rw [Nat.mul_comm]; exact this)

theorem wi {n : Nat} (h : n ≤ 1000000) : IntKind.i64.wrap (n : Int) = (n : Int) := by rw [IntKind.wrap_i64]; omega
set_option maxHeartbeats 4000000 in
theorem bounded_any {w : World} {b m n : Nat} (h : PcIs w b 0 1 m) (hn : n ≤ 5000) : Calls Try.prog 11 #[.pointer (some ⟨b, 0, none⟩), .int .i64 (m : Nat), .int .i64 (n : Nat)] w fun e w' => e = .returned (.bool true) ∧ (∃ l g, PcIs w' b l g m) ∧ Mv (fun k => k = b) w w' := by
  have hm : m ≤ 64 := h.hm
  have hm1 : 1 ≤ m := h.hg
  have H0 := wait_any h
  have HP : Hid (PcIs w b 0 1 m) := h
  clear h
  go_enter Try.func11, Try.ntmps11
  go_wp2_with (go_at_call 10; refine H0.mono ?_; rintro e w2 ⟨rfl, rfl⟩)
  go_loopg [7, 8, 9, 10] n (fun q s7 s8 s9 s10 wx => ∃ (i l g t p s : Nat), i ≤ n ∧ q = n - i ∧ s7 = .int .i64 (t : Nat) ∧ s8 = .int .i64 (p : Nat) ∧ s9 = .int .i64 (s : Nat) ∧ s10 = .int .i64 (i : Nat) ∧ PcIs wx b l g m ∧ Bd m i l g t p s ∧ Mv (fun k => k = b) w wx)
  case atStart =>
    exact ⟨0, 0, 1, 0, 0, 0, Nat.zero_le _, rfl, rfl, rfl, rfl, rfl, HP.out, Bd.start m, Mv.refl _ _⟩
  case round =>
    obtain ⟨i, l, g, t, p, s, hi, rfl, rfl, rfl, rfl, rfl, hP, hB, hM⟩ := hrel
    clear HP H0
    have hti := hB.ti
    by_cases hlt : i < n
    · have H1 := wait_any hP
      have H2 := tick_any hP
      have hlm := hP.hl
      have hz : (i : Int) < (n : Int) := by omega
      obtain ⟨i1, hi1, hi2⟩ : ∃ k : Nat, (i : Int) + 1 = (k : Int) ∧ k = i + 1 := ⟨i + 1, by omega, rfl⟩
      obtain ⟨s1, hs1, hs2⟩ : ∃ k : Nat, (s : Int) + 1 = (k : Int) ∧ k = s + 1 := ⟨s + 1, by omega, rfl⟩
      obtain ⟨t1, ht1, ht2⟩ : ∃ k : Nat, (t : Int) + 1 = (k : Int) ∧ k = t + 1 := ⟨t + 1, by omega, rfl⟩
      have wi1 : IntKind.i64.wrap (i1 : Int) = (i1 : Int) := wi (by omega)
      have wt1 : IntKind.i64.wrap (t1 : Int) = (t1 : Int) := wi (by omega)
      by_cases hl : 1 < l
      · obtain ⟨hB', ht, hi0, hsm⟩ := hB.no hm1 hl
        have ws1 : IntKind.i64.wrap (s1 : Int) = (s1 : Int) := wi (by omega)
        have el : tkL l g = l - 1 := if_pos hl
        have ed : decide (l ≤ 1) = false := by simp; omega
        rw [ed] at H2
        obtain ⟨l1, hl1, hl2⟩ : ∃ k : Nat, (l : Int) - 1 = (k : Int) ∧ k = l - 1 := ⟨l - 1, by omega, rfl⟩
        have wl1 : IntKind.i64.wrap (l1 : Int) = (l1 : Int) := wi (by omega)
        rw [el, ← hl2] at H2 hB'
        rw [← hi2, ← hs2] at hB'
        have HH2 : Hid (Calls Try.prog 8 #[.pointer (some ⟨b, 0, none⟩)] wr fun e w' => e = .returned (.bool false) ∧ Hid (PcIs w' b l1 (tkG l g m) m ∧ Mv (fun k => k = b) wr w') ∧ Hid (Calls Try.prog 10 #[.pointer (some ⟨b, 0, none⟩)] w' fun e w'' => e = .returned (.int .i64 (l1 : Nat)) ∧ w' = w'')) := H2.mono fun e w' ⟨he, hp, hq⟩ => ⟨he, ⟨hp, hq⟩, wait_any hp⟩
        have HB' : Hid (Bd m i1 l1 (tkG l g m) t p s1) := hB'
        have HM : Hid (Mv (fun k => k = b) w wr) := hM
        have HH1 : Hid (Calls Try.prog 10 #[.pointer (some ⟨b, 0, none⟩)] wr fun e w' => e = .returned (.int .i64 (l : Nat)) ∧ wr = w') := H1
        have z1 : ¬ (l : Int) ≤ 1 := by omega
        have z2 : ¬ (i : Int) = 0 := by omega
        have z3 : ¬ (s1 : Int) ≥ (m : Int) := by omega
        have z4 : ((i : Int) == 0) = false := by simp; omega
        have hmm : n - i1 < n - i := by omega
        have hin : i1 ≤ n := by omega
        clear hB hP hM H1 H2 hB' hti hlm el ed hi2 hs2 ht2 hl2
        go_wp2_with (first
          | (go_at_call 10; refine HW3.out.mono ?_; rintro e w4 ⟨rfl, rfl⟩)
          | (go_at_call 10; refine HH1.out.mono ?_; rintro e w2 ⟨rfl, rfl⟩)
          | (go_at_call 8; refine HH2.out.mono ?_; rintro e w3 ⟨rfl, HP3, HW3⟩))
        go_roundg (n - i1)
        case measure => go_light; exact hmm
        case rel => go_light; exact ⟨i1, l1, tkG l g m, t, p, s1, hin, rfl, rfl, rfl, rfl, rfl, HP3.out.1, HB'.out, HM.out.trans HP3.out.2⟩
      · obtain ⟨hB', hl1⟩ := hB.yes hm1 hl
        have ed : decide (l ≤ 1) = true := by simp; omega
        rw [ed] at H2
        have hcur := fun ht : 1 ≤ t => hB.cur hm1 ht
        have hsb : s ≤ 64 := by
          rcases Nat.eq_zero_or_pos t with e | e
          · have := hB.z e; omega
          · have := hcur e; omega
        have hpb : p ≤ 64 := by
          rcases Nat.eq_zero_or_pos t with e | e
          · have := hB.z e; omega
          · have := hcur e; omega
        have ws1 : IntKind.i64.wrap (s1 : Int) = (s1 : Int) := wi (by omega)
        rw [← hi2, ← ht2, ← hs2] at hB'
        have HH2 : Hid (Calls Try.prog 8 #[.pointer (some ⟨b, 0, none⟩)] wr fun e w' => e = .returned (.bool true) ∧ Hid (PcIs w' b (tkL l g) (tkG l g m) m ∧ Mv (fun k => k = b) wr w')) := H2.mono fun e w' ⟨he, hp, hq⟩ => ⟨he, hp, hq⟩
        have HM : Hid (Mv (fun k => k = b) w wr) := hM
        have HH1 : Hid (Calls Try.prog 10 #[.pointer (some ⟨b, 0, none⟩)] wr fun e w' => e = .returned (.int .i64 (l : Nat)) ∧ wr = w') := H1
        have z1 : (l : Int) ≤ 1 := by omega
        have hmm : n - i1 < n - i := by omega
        have hin : i1 ≤ n := by omega
        rcases Nat.eq_zero_or_pos t with e | e
        · have HB' : Hid (Bd m i1 (tkL l g) (tkG l g m) t1 p 0) := by rw [if_neg (by omega)] at hB'; exact hB'
          have z2 : ¬ (t : Int) > 0 := by omega
          clear hB hP hM H1 H2 hB' hti hlm ed hi2 hs2 ht2 hl1 hcur hsb hpb e
          go_wp2_with (first
            | (go_at_call 10; refine HH1.out.mono ?_; rintro e w2 ⟨rfl, rfl⟩)
            | (go_at_call 8; refine HH2.out.mono ?_; rintro e w3 ⟨rfl, HP3⟩))
          go_roundg (n - i1)
          case measure => go_light; exact hmm
          case rel => go_light; exact ⟨i1, tkL l g, tkG l g m, t1, p, 0, hin, rfl, rfl, rfl, rfl, rfl, HP3.out.1, HB'.out, HM.out.trans HP3.out.2⟩
        · have HB' : Hid (Bd m i1 (tkL l g) (tkG l g m) t1 s1 0) := by rw [if_pos e] at hB'; exact hB'
          have hc := hcur e
          have hle := hl1 e
          have z2 : (t : Int) > 0 := by omega
          have z3 : ¬ (s1 : Int) < (p : Int) := by omega
          have z4 : ¬ (s1 : Int) > (m : Int) := by omega
          by_cases hp0 : p = 0
          · have z5 : ¬ (p : Int) > 0 := by omega
            clear hB hP hM H1 H2 hB' hti hlm ed hi2 hs2 ht2 hl1 hcur hsb hpb e hc hle hp0
            go_wp2_with (first
              | (go_at_call 10; refine HH1.out.mono ?_; rintro e w2 ⟨rfl, rfl⟩)
              | (go_at_call 8; refine HH2.out.mono ?_; rintro e w3 ⟨rfl, HP3⟩))
            go_roundg (n - i1)
            case measure => go_light; exact hmm
            case rel => go_light; exact ⟨i1, tkL l g, tkG l g m, t1, s1, 0, hin, rfl, rfl, rfl, rfl, rfl, HP3.out.1, HB'.out, HM.out.trans HP3.out.2⟩
          · have z5 : (p : Int) > 0 := by omega
            obtain ⟨p2, hp2, hp3⟩ : ∃ k : Nat, 2 * (p : Int) = (k : Int) ∧ k = 2 * p := ⟨2 * p, by omega, rfl⟩
            have wp2 : IntKind.i64.wrap (p2 : Int) = (p2 : Int) := wi (by omega)
            have z6 : ¬ (s1 : Int) > (p2 : Int) := by omega
            by_cases hsm : s1 < m
            · have z7 : (s1 : Int) < (m : Int) := by omega
              have z8 : s1 = p2 := by omega
              have z9 : ((p2 : Int) == (p2 : Int)) = true := by simp
              subst z8
              clear hB hP hM H1 H2 hB' hti hlm ed hi2 hs2 ht2 hl1 hcur hsb hpb e hc hle hp0 hsm hp3
              go_wp2_with (first
                | (go_at_call 10; refine HH1.out.mono ?_; rintro e w2 ⟨rfl, rfl⟩)
                | (go_at_call 8; refine HH2.out.mono ?_; rintro e w3 ⟨rfl, HP3⟩))
              go_roundg (n - i1)
              case measure => go_light; exact hmm
              case rel => go_light; exact ⟨i1, tkL l g, tkG l g m, t1, s1, 0, hin, rfl, rfl, rfl, rfl, rfl, HP3.out.1, HB'.out, HM.out.trans HP3.out.2⟩
            · have z7 : ¬ (s1 : Int) < (m : Int) := by omega
              clear hB hP hM H1 H2 hB' hti hlm ed hi2 hs2 ht2 hl1 hcur hsb hpb e hc hle hp0 hsm hp3
              go_wp2_with (first
                | (go_at_call 10; refine HH1.out.mono ?_; rintro e w2 ⟨rfl, rfl⟩)
                | (go_at_call 8; refine HH2.out.mono ?_; rintro e w3 ⟨rfl, HP3⟩))
              go_roundg (n - i1)
              case measure => go_light; exact hmm
              case rel => go_light; exact ⟨i1, tkL l g, tkG l g m, t1, s1, 0, hin, rfl, rfl, rfl, rfl, rfl, HP3.out.1, HB'.out, HM.out.trans HP3.out.2⟩
    · obtain rfl : i = n := by omega
      have he := hB.ends hm1
      have hz : ¬ ((i : Int) < (i : Int)) := by omega
      have hd : (i : Int).tdiv (m : Int) = ((i / m : Nat) : Int) := by exact Int.ofNat_tdiv i m
      have hm0 : ((m : Int) == 0) = false := by simp; omega
      have hm0' : ¬ (m : Int) = 0 := by omega
      have hq : (t : Int) ≥ ((i / m : Nat) : Int) := by omega
      have hle : i / m ≤ i := Nat.div_le_self _ _
      have hw : IntKind.i64.wrap ((i / m : Nat) : Int) = ((i / m : Nat) : Int) := wi (by omega)
      generalize i / m = d at *
      have HK : Hid ((∃ l g, PcIs wr b l g m) ∧ Mv (fun k => k = b) w wr) := ⟨⟨l, g, hP⟩, hM⟩
      clear hB hP hM he
      go_wp2_with fail
      go_ret
      exact ⟨rfl, HK.out⟩
end Go.Proofs.Ytjmgddaikcpinaa
