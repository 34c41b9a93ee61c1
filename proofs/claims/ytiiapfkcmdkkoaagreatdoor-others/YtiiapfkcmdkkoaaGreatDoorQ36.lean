import Derived.Test.YtiiapfkcmdkkoaaGreatDoorQ35
/-
  The document's own reader: chunks, walked.
-/
namespace Go.Proofs.YtiiapfkcmdkkoaaGreatDoor
open Go.RowKit

/-- Behind a chunk's bytes: what is left of a round. -/
def tailP (g n : Nat) (q : Pn) (r : Rq) : Rq :=
  if (q.exact [13, 10]).bad = true then wrongR 400 else
  if (q.exact [13, 10]).more = true then { r with kind := 1 } else
  if n = 0 then { r with kind := 2 } else chunksP g (q.exact [13, 10]) r
theorem chunksP_succ (g : Nat) (p : Pn) (r : Rq) : chunksP (g + 1) p r = if p.c2.on = true ∧ 100 < r.text.length + p.cn then wrongR 413 else tailP g p.cn (p.c2.c3 p.cn) { r with text := r.text ++ p.c2.ct p.cn } := rfl

theorem ba_ext (t : List UInt8) (s : ByteArray) (i k : Nat) : ((⟨t.toArray⟩ : ByteArray) ++ s.extract i (i + k)) = ⟨(t ++ (s.data.toList.drop i).take k).toArray⟩ := by
  apply ByteArray.ext
  rw [ByteArray.data_append]
  apply Array.ext'
  simp only [ByteArray.data_extract, Array.toList_append, Array.toList_extract, List.extract_eq_take_drop, Nat.add_sub_cancel_left]
theorem ChAt.step {w W : World} {P : Nat} {s : ByteArray} {q : Pn} {rr : Rq} (h : ChAt w W P s q rr) (hP : P < w.heap.size) (k : Nat) (hk : q.i + k ≤ s.size) (iv : Int) (hiv : iv = ((q.i + k : Nat) : Int)) (b : ByteArray) (hb : b = ⟨(rr.text ++ (s.data.toList.drop q.i).take k).toArray⟩) :
    ChAt w (((W.setCell ⟨w.heap.size, 5, none⟩ (.string b)).setCell ⟨P, 1, none⟩ (.int .i64 iv)).drew) P s { q with i := q.i + k } { rr with text := rr.text ++ (s.data.toList.drop q.i).take k } := by
  have h1 := h.set hP 5 (.string b) (r' := { rr with text := rr.text ++ (s.data.toList.drop q.i).take k }) (by rw [hb]; rfl)
  have h2 := h1.pn hP (PenX.setI ⟨h1.pen, Upd.refl _ _⟩ (q.i + k)) h.eqs hk
  rw [hiv]
  exact h2.same (Upd.refl _ _).drew

set_option maxHeartbeats 6400000 in
set_option maxRecDepth 100000 in
theorem chunks_any {w : World} {P : Nat} {p : Pn} (h : Hid (PenAt w P p)) (hi : p.i ≤ p.s.size) (hs : p.s.size ≤ 2000000) (r : Rq) (hr : r.text.length ≤ 100) :
    Calls Tryz.prog 66 #[.pointer (some ⟨P, 0, none⟩), rqV r] w fun e w' => e = .returned (rqV (chunksP (p.s.size + 1) p r)) ∧ Upd (fun k => k = P) w w' := by
  have hP := lt_of_heap h.out
  have H0 : Hid (ChAt w ((w.alloc (.cells #[.int .i64 r.kind, .int .i64 r.status, .string ⟨r.method.toArray⟩, .string ⟨r.target.toArray⟩, .bool r.close, .string ⟨r.text.toArray⟩] 47)).alloc zero6) P p.s p r) := by
    have U : Upd (fun _ => False) w ((w.alloc (.cells #[.int .i64 r.kind, .int .i64 r.status, .string ⟨r.method.toArray⟩, .string ⟨r.target.toArray⟩, .bool r.close, .string ⟨r.text.toArray⟩] 47)).alloc zero6) := ((Upd.refl _ w).alloc _).alloc _
    refine ⟨U.keep h.out (fun h => h), U.mono (fun _ _ h => h.elim), ?_, ?_, rfl, hi⟩
    · simp only [hpush, Array.getElem?_push, Array.size_push]
      repeat (first | rw [if_pos trivial] | rw [if_pos (by omega)] | rw [if_neg (by omega)])
      rfl
    · simp only [hpush, Array.getElem?_push, Array.size_push]
      repeat (first | rw [if_pos trivial] | rw [if_pos (by omega)] | rw [if_neg (by omega)])
  have erq : rqV r = .agg #[.int .i64 r.kind, .int .i64 r.status, .string ⟨r.method.toArray⟩, .string ⟨r.target.toArray⟩, .bool r.close, .string ⟨r.text.toArray⟩] := rfl
  rw [erq]
  clear erq h
  go_enter Tryz.func66, Tryz.ntmps66
  go_wp2_with fail
  go_loopg [] (p.s.size + 1) (fun gn wr => ∃ (q : Pn) (r' : Rq), Hid (ChAt w wr P p.s q r') ∧ p.s.size - q.i < gn ∧ r'.text.length ≤ 100 ∧ Hid (chunksP gn q r' = chunksP (p.s.size + 1) p r))
  case atStart => exact ⟨p, r, H0, by omega, hr, rfl⟩
  case round =>
    obtain ⟨q, rr, hx, hgn, hrl, hf⟩ := hrel
    clear H0 hr hi
    obtain ⟨g, rfl⟩ : ∃ g, gk = g + 1 := ⟨gk - 1, by omega⟩
    have hqs := hx.out.eqs
    have hqi := hx.out.le
    have HC1 : Hid (Calls Tryz.prog 40 #[.pointer (some ⟨P, 0, none⟩), .int .u8 120, .int .i64 1, .int .i64 4] wr fun e w' => e = .returned (.string ⟨(q.rowS 120 4).toArray⟩) ∧ ChAt w w' P p.s q.c1 rr) := by
      refine (row_any (hid hx.out.pen) (by rw [hqs]; exact hqi) (by rw [hqs]; omega) 120 (by omega) 1 4 (by decide) (by decide)).mono ?_
      rintro e w' ⟨rfl, hq⟩
      refine ⟨rfl, hx.out.pn hP hq ((c_s q).1.trans hqs) ?_⟩
      have := (c_i q (by rw [hqs]; exact hqi)).1
      rw [hqs] at this
      exact this
    have HC2 : Hid (∀ W, ChAt w W P p.s q.c1 rr → Calls Tryz.prog 41 #[.pointer (some ⟨P, 0, none⟩), .string ⟨#[13, 10]⟩] W fun e w' => e = .returned (.tuple #[]) ∧ ChAt w w' P p.s q.c2 rr) := by
      intro W hx2
      refine (exact_any (hid hx2.pen) (by rw [hx2.eqs]; exact hx2.le) (by rw [hx2.eqs]; omega) [13, 10] (by decide)).mono ?_
      rintro e w' ⟨rfl, hq⟩
      refine ⟨rfl, hx2.pn hP hq ((c_s q).2.trans hqs) ?_⟩
      have := (c_i q (by rw [hqs]; exact hqi)).2
      rw [hqs] at this
      exact this
    have HIn := hid (rowS_in q 120 4)
    have hcn := cn_lt q
    have HCn : Hid (q.cn = hexVal (q.rowS 120 4)) := rfl
    have hll := (rowS_in q 120 4).2
    have HProg := hid (c4_on q (by rw [hqs]; exact hqi))
    have HNx := hid (chunksP_succ g q rr)
    rw [hf.out] at HNx
    clear hf
    generalize q.rowS 120 4 = l at *
    generalize q.cn = n at *
    clear hx
    go_wp2_with fail
    refine HC1.out.mono ?_
    rintro e w1 ⟨rfl, hq1⟩
    have HQ1 := hid hq1
    clear hq1 HC1
    go_wp2_with fail
    refine (HC2.out _ HQ1.out).mono ?_
    rintro e w2 ⟨rfl, hq2⟩
    have HQ2 := hid hq2
    clear hq2 HC2 HQ1
    go_wp2_with fail
    go_loop [6, 7] (fun nv iv => ∃ k : Nat, k ≤ l.length ∧ iv = .int .i64 k ∧ nv = .int .i64 (hexVal (l.take k))) (fun _ iv => l.length - (intOf iv).toNat)
    case atStart => exact ⟨0, Nat.zero_le _, rfl, rfl⟩
    case round =>
      obtain ⟨k, hk, rfl, rfl⟩ := hrel
      have hb : hexVal (l.take k) < 65536 := hexVal_lt _ (fun c hc => HIn.out.1 c (List.mem_of_mem_take hc)) (by rw [List.length_take]; omega)
      by_cases hlt : k < l.length
      · have HH := hid (fun W => hex_any l[k] (HIn.out.1 _ (List.getElem_mem hlt)) W)
        have HV : Hid (hexVal (l.take (k + 1)) = hexVal (l.take k) * 16 + hexDig l[k]) := by show _ = _; rw [List.take_succ_eq_append_getElem hlt, hexVal_snoc]
        have hb2 : hexVal (l.take (k + 1)) < 65536 := hexVal_lt _ (fun c hc => HIn.out.1 c (List.mem_of_mem_take hc)) (by rw [List.length_take]; omega)
        rw [HV.out] at hb2
        go_wp2_with (go_at_call 87; refine (HH.out _).mono ?_; rintro e w' ⟨rfl, rfl⟩)
        go_round
        case rel => exact ⟨k + 1, by omega, by go_num, by rw [HV.out]; simp only [Value.int.injEq, true_and]; omega⟩
        case measure => simp [intOf]; omega
      · obtain rfl : k = l.length := by omega
        rw [List.take_length] at hb ⊢
        rw [← HCn.out] at hb ⊢
        clear HIn HCn hll
        have HOn := hid (on_any (hid HQ2.out.pen))
        cases hon : q.c2.on
        · rw [hon] at HOn
          have HT : Hid (chunksP (p.s.size + 1) p r = tailP g n q.c2 rr) := by
            show _ = _
            rw [HNx.out, if_neg (by rw [hon]; rintro ⟨h, _⟩; cases h)]
            unfold Pn.c3 Pn.ct
            rw [if_neg (by rw [hon]; rintro ⟨h, _⟩; cases h), if_neg (by rw [hon]; rintro ⟨h, _⟩; cases h), List.append_nil]
          clear HNx
          go_wp2_with fail
          refine HOn.out.mono ?_
          rintro e w3 ⟨rfl, rfl⟩
          clear HOn
          go_wp2_with fail
          have HK : ∃ q3 rr3, Hid (ChAt w w3 P p.s q3 rr3) ∧ Hid (chunksP (p.s.size + 1) p r = tailP g n q3 rr3) ∧ Hid ((q3.exact [13, 10]).on = true → q.i < (q3.exact [13, 10]).i) ∧ rr3.text.length ≤ 100 := by
            refine ⟨q.c2, rr, HQ2, HT, ?_, hrl⟩
            have := HProg.out
            have e : q.c2.c3 n = q.c2 := by unfold Pn.c3; rw [if_neg (by rw [hon]; rintro ⟨h, _⟩; cases h)]
            rw [e] at this
            exact this
          clear HT
          obtain ⟨q3, rr3, HQ3, HT, HPr, hrl3⟩ := HK
          clear HQ2 HProg
          refine (exact_any (hid HQ3.out.pen) (by rw [HQ3.out.eqs]; exact HQ3.out.le) (by rw [HQ3.out.eqs]; omega) [13, 10] (by decide)).mono ?_
          rintro e w4 ⟨rfl, hq4⟩
          have HQ4 : Hid (ChAt w w4 P p.s (q3.exact [13, 10]) rr3) := by
            have hes := exact_s [13, 10] q3
            exact HQ3.out.pn hP hq4 (hes.1.trans HQ3.out.eqs) (by have := hes.2 (by rw [HQ3.out.eqs]; exact HQ3.out.le); rw [HQ3.out.eqs] at this; exact this)
          clear hq4 HQ3
          unfold tailP at HT
          generalize q3.exact [13, 10] = q4 at *
          have d2 : w4.cell? ⟨P, 2, none⟩ = some (.bool q4.more) := cell_of_heap HQ4.out.pen 2
          have d3 : w4.cell? ⟨P, 3, none⟩ = some (.bool q4.bad) := cell_of_heap HQ4.out.pen 3
          have hlt4 := lt_of_heap HQ4.out.res
          cases hbad : q4.bad
          · rw [hbad] at d3 HT
            have hrq := HQ4.out.rq
            unfold rqCells at hrq
            obtain ⟨⟨x0, x1, x2, x3, x4, x5⟩, v0, v1, v2, v3, v4, v5⟩ := cells6 hrq
            obtain ⟨⟨z0, z1, z2, z3, z4, z5⟩, y0, y1, y2, y3, y4, y5⟩ := cells6 HQ4.out.res
            clear hrq
            cases hmore : q4.more
            · rw [hmore] at d2 HT
              by_cases hn0 : n = 0
              · have HT2 : Hid (chunksP (p.s.size + 1) p r = { rr3 with kind := 2 }) := by have := HT.out; rw [if_pos hn0] at this; exact this
                clear HT HPr
                subst hn0
                go_wp2
                exact bodyPost_ret (v := rqV { rr3 with kind := 2 }) (by simp [results, Tryz.results66, go_sem, z0, z1, z2, z3, z4, z5, rqV]) rfl ⟨by rw [HT2.out], (HQ4.out.upd.setCell (p := ⟨w.heap.size, 0, none⟩) (fun h => absurd h (Nat.lt_irrefl _)) _).six _ (by omega) _ _ _ _ _ _⟩
              · have HT2 : Hid (chunksP (p.s.size + 1) p r = chunksP g q4 rr3) := by have := HT.out; rw [if_neg hn0] at this; exact this
                have hon4 : q4.on = true := by unfold Pn.on; rw [hbad, hmore]; rfl
                have hpr := HPr.out hon4
                have hle4 := HQ4.out.le
                have hne : ((n : Int) == 0) = false := by rw [beq_eq_false_iff_ne]; omega
                clear HT HPr hon4
                first
                  | (exfalso; omega)
                  | (go_wp2_with fail
                     go_roundg g
                     case measure => omega
                     case rel => exact ⟨q4, rr3, HQ4, by omega, hrl3, HT2.out.symm⟩)
            · rw [hmore] at d2 HT
              have HT2 : Hid (chunksP (p.s.size + 1) p r = { rr3 with kind := 1 }) := HT.out
              clear HT HPr
              go_wp2
              exact bodyPost_ret (v := rqV { rr3 with kind := 1 }) (by simp [results, Tryz.results66, go_sem, z0, z1, z2, z3, z4, z5, rqV]) rfl ⟨by rw [HT2.out], (HQ4.out.upd.setCell (p := ⟨w.heap.size, 0, none⟩) (fun h => absurd h (Nat.lt_irrefl _)) _).six _ (by omega) _ _ _ _ _ _⟩
          · rw [hbad] at d3 HT
            have HT2 : Hid (chunksP (p.s.size + 1) p r = wrongR 400) := HT.out
            clear HT HPr
            go_wp2_with fail
            refine (wrong_any 400 _).mono ?_
            rintro e w5 ⟨rfl, hu5⟩
            have HQ5 := hid (HQ4.out.same hu5)
            obtain ⟨⟨z0, z1, z2, z3, z4, z5⟩, y0, y1, y2, y3, y4, y5⟩ := cells6 HQ5.out.res
            clear hu5 HQ4
            unfold rqV wrongR
            go_wp2
            exact bodyPost_ret (v := rqV (wrongR 400)) (by simp [results, Tryz.results66, go_sem, z0, z1, z2, z3, z4, z5, rqV, wrongR]) rfl ⟨by rw [HT2.out], HQ5.out.upd.six _ (by omega) _ _ _ _ _ _⟩
        · rw [hon] at HOn
          have hqi2 := HQ2.out.le
          have hqs2 := HQ2.out.eqs
          have p0 : w2.cell? ⟨P, 0, none⟩ = some (.string q.c2.s) := cell_of_heap HQ2.out.pen 0
          have p1 : w2.cell? ⟨P, 1, none⟩ = some (.int .i64 q.c2.i) := cell_of_heap HQ2.out.pen 1
          have p2 : w2.cell? ⟨P, 2, none⟩ = some (.bool q.c2.more) := cell_of_heap HQ2.out.pen 2
          have f1 : w2.frozen? ⟨P, 1, none⟩ = false := unfrozen_of_heap HQ2.out.pen 1
          have f2 : w2.frozen? ⟨P, 2, none⟩ = false := unfrozen_of_heap HQ2.out.pen 2
          have c5 : w2.cell? ⟨w.heap.size, 5, none⟩ = some (.string ⟨rr.text.toArray⟩) := cell_of_heap HQ2.out.rq 5
          have g5 : w2.frozen? ⟨w.heap.size, 5, none⟩ = false := unfrozen_of_heap HQ2.out.rq 5
          rw [hqs2] at p0
          by_cases hbig : 100 < rr.text.length + n
          · have HT2 : Hid (chunksP (p.s.size + 1) p r = wrongR 413) := by
              show _ = _
              rw [HNx.out, if_pos ⟨hon, hbig⟩]
            have hb1 : (100 : Int) < (rr.text.length : Int) + (n : Int) := by omega
            clear HNx HProg
            go_wp2_with fail
            refine HOn.out.mono ?_
            rintro e w3 ⟨rfl, rfl⟩
            clear HOn
            go_wp2_with fail
            refine (wrong_any 413 _).mono ?_
            rintro e w5 ⟨rfl, hu5⟩
            have HQ5 := hid (HQ2.out.same hu5)
            obtain ⟨⟨z0, z1, z2, z3, z4, z5⟩, y0, y1, y2, y3, y4, y5⟩ := cells6 HQ5.out.res
            clear hu5 HQ2
            unfold rqV wrongR
            go_wp2
            exact bodyPost_ret (v := rqV (wrongR 413)) (by simp [results, Tryz.results66, go_sem, z0, z1, z2, z3, z4, z5, rqV, wrongR]) rfl ⟨by rw [HT2.out], HQ5.out.upd.six _ (by omega) _ _ _ _ _ _⟩
          · have HT2 : Hid (chunksP (p.s.size + 1) p r = tailP g n (q.c2.c3 n) { rr with text := rr.text ++ q.c2.ct n }) := by
              show _ = _
              rw [HNx.out, if_neg (fun h => hbig h.2)]
            have hb1 : ¬ (100 : Int) < (rr.text.length : Int) + (n : Int) := by omega
            have hb2 : decide ((100 : Int) < (rr.text.length : Int) + (n : Int)) = false := decide_eq_false hb1
            clear HNx
            by_cases hn0 : n = 0
            · have HK : ∀ W, Upd (fun _ => False) w2 W → ∃ q3 rr3, Hid (ChAt w W P p.s q3 rr3) ∧ Hid (chunksP (p.s.size + 1) p r = tailP g n q3 rr3) ∧ Hid ((q3.exact [13, 10]).on = true → q.i < (q3.exact [13, 10]).i) ∧ rr3.text.length ≤ 100 := by
                intro W hW
                have e : q.c2.c3 n = q.c2 := by unfold Pn.c3; rw [if_neg (by omega)]
                have e2 : q.c2.ct n = [] := by unfold Pn.ct; rw [if_neg (by omega)]
                have h1 := HProg.out
                rw [e] at h1
                have h2 := HT2.out
                rw [e, e2, List.append_nil] at h2
                exact ⟨q.c2, rr, HQ2.out.same hW, h2, h1, hrl⟩
              clear HT2
              have hz1 : ¬ (0 : Int) < (n : Int) := by omega
              clear hn0
              go_wp2_with fail
              refine HOn.out.mono ?_
              rintro e w3 ⟨rfl, rfl⟩
              clear HOn
              go_wp2_with fail
              replace HK := HK _ (Upd.refl _ _)
              obtain ⟨q3, rr3, HQ3, HT, HPr, hrl3⟩ := HK
              clear HQ2 HProg
              refine (exact_any (hid HQ3.out.pen) (by rw [HQ3.out.eqs]; exact HQ3.out.le) (by rw [HQ3.out.eqs]; omega) [13, 10] (by decide)).mono ?_
              rintro e w4 ⟨rfl, hq4⟩
              have HQ4 : Hid (ChAt w w4 P p.s (q3.exact [13, 10]) rr3) := by
                have hes := exact_s [13, 10] q3
                exact HQ3.out.pn hP hq4 (hes.1.trans HQ3.out.eqs) (by have := hes.2 (by rw [HQ3.out.eqs]; exact HQ3.out.le); rw [HQ3.out.eqs] at this; exact this)
              clear hq4 HQ3
              unfold tailP at HT
              generalize q3.exact [13, 10] = q4 at *
              have d2 : w4.cell? ⟨P, 2, none⟩ = some (.bool q4.more) := cell_of_heap HQ4.out.pen 2
              have d3 : w4.cell? ⟨P, 3, none⟩ = some (.bool q4.bad) := cell_of_heap HQ4.out.pen 3
              have hlt4 := lt_of_heap HQ4.out.res
              cases hbad : q4.bad
              · rw [hbad] at d3 HT
                have hrq := HQ4.out.rq
                unfold rqCells at hrq
                obtain ⟨⟨x0, x1, x2, x3, x4, x5⟩, v0, v1, v2, v3, v4, v5⟩ := cells6 hrq
                obtain ⟨⟨z0, z1, z2, z3, z4, z5⟩, y0, y1, y2, y3, y4, y5⟩ := cells6 HQ4.out.res
                clear hrq
                cases hmore : q4.more
                · rw [hmore] at d2 HT
                  by_cases hn0 : n = 0
                  · have HT2 : Hid (chunksP (p.s.size + 1) p r = { rr3 with kind := 2 }) := by have := HT.out; rw [if_pos hn0] at this; exact this
                    clear HT HPr
                    subst hn0
                    go_wp2
                    exact bodyPost_ret (v := rqV { rr3 with kind := 2 }) (by simp [results, Tryz.results66, go_sem, z0, z1, z2, z3, z4, z5, rqV]) rfl ⟨by rw [HT2.out], (HQ4.out.upd.setCell (p := ⟨w.heap.size, 0, none⟩) (fun h => absurd h (Nat.lt_irrefl _)) _).six _ (by omega) _ _ _ _ _ _⟩
                  · have HT2 : Hid (chunksP (p.s.size + 1) p r = chunksP g q4 rr3) := by have := HT.out; rw [if_neg hn0] at this; exact this
                    have hon4 : q4.on = true := by unfold Pn.on; rw [hbad, hmore]; rfl
                    have hpr := HPr.out hon4
                    have hle4 := HQ4.out.le
                    have hne : ((n : Int) == 0) = false := by rw [beq_eq_false_iff_ne]; omega
                    clear HT HPr hon4
                    first
                      | (exfalso; omega)
                      | (go_wp2_with fail
                         go_roundg g
                         case measure => omega
                         case rel => exact ⟨q4, rr3, HQ4, by omega, hrl3, HT2.out.symm⟩)
                · rw [hmore] at d2 HT
                  have HT2 : Hid (chunksP (p.s.size + 1) p r = { rr3 with kind := 1 }) := HT.out
                  clear HT HPr
                  go_wp2
                  exact bodyPost_ret (v := rqV { rr3 with kind := 1 }) (by simp [results, Tryz.results66, go_sem, z0, z1, z2, z3, z4, z5, rqV]) rfl ⟨by rw [HT2.out], (HQ4.out.upd.setCell (p := ⟨w.heap.size, 0, none⟩) (fun h => absurd h (Nat.lt_irrefl _)) _).six _ (by omega) _ _ _ _ _ _⟩
              · rw [hbad] at d3 HT
                have HT2 : Hid (chunksP (p.s.size + 1) p r = wrongR 400) := HT.out
                clear HT HPr
                go_wp2_with fail
                refine (wrong_any 400 _).mono ?_
                rintro e w5 ⟨rfl, hu5⟩
                have HQ5 := hid (HQ4.out.same hu5)
                obtain ⟨⟨z0, z1, z2, z3, z4, z5⟩, y0, y1, y2, y3, y4, y5⟩ := cells6 HQ5.out.res
                clear hu5 HQ4
                unfold rqV wrongR
                go_wp2
                exact bodyPost_ret (v := rqV (wrongR 400)) (by simp [results, Tryz.results66, go_sem, z0, z1, z2, z3, z4, z5, rqV, wrongR]) rfl ⟨by rw [HT2.out], HQ5.out.upd.six _ (by omega) _ _ _ _ _ _⟩
            · have hnp : (0 : Int) < (n : Int) := by omega
              have hi0 : (q.c2.i : Int) ≤ (p.s.size : Int) := by omega
              by_cases hsh : p.s.size - q.c2.i < n
              · have hsh1 : (p.s.size : Int) - (q.c2.i : Int) < (n : Int) := by omega
                have hii : q.c2.i + (p.s.size - q.c2.i) = p.s.size := by omega
                have HBx := hid (ba_ext rr.text p.s q.c2.i (p.s.size - q.c2.i))
                rw [hii] at HBx
                have e : q.c2.c3 n = { q.c2 with i := q.c2.i + (p.s.size - q.c2.i), more := true } := by unfold Pn.c3; rw [if_pos ⟨hon, by omega⟩, if_pos (by rw [hqs2]; exact hsh), hii, ← hqs2]
                have e2 : q.c2.ct n = (p.s.data.toList.drop q.c2.i).take (p.s.size - q.c2.i) := by
                  unfold Pn.ct
                  have hln : (p.s.data.toList.drop q.c2.i).length = p.s.size - q.c2.i := by rw [List.length_drop, Array.length_toList]; rfl
                  rw [if_pos ⟨hon, by omega⟩, hqs2, List.take_of_length_le (by omega), List.take_of_length_le (by omega)]
                have HPr3 : Hid ((({ q.c2 with i := q.c2.i + (p.s.size - q.c2.i), more := true } : Pn).exact [13, 10]).on = true → q.i < (({ q.c2 with i := q.c2.i + (p.s.size - q.c2.i), more := true } : Pn).exact [13, 10]).i) := by
                  have := HProg.out
                  rw [e] at this
                  exact this
                have HT3 : Hid (chunksP (p.s.size + 1) p r = tailP g n { q.c2 with i := q.c2.i + (p.s.size - q.c2.i), more := true } { rr with text := rr.text ++ (p.s.data.toList.drop q.c2.i).take (p.s.size - q.c2.i) }) := by
                  have := HT2.out
                  rw [e, e2] at this
                  exact this
                have hrl3 : (rr.text ++ (p.s.data.toList.drop q.c2.i).take (p.s.size - q.c2.i)).length ≤ 100 := by
                  rw [List.length_append, List.length_take]
                  omega
                clear e e2 HT2 HProg hii
                go_wp2_with fail
                refine HOn.out.mono ?_
                rintro e w3 ⟨rfl, rfl⟩
                clear HOn
                go_wp2_with fail
                go_quiet (fail)
                go_wp2_with fail
                go_quiet (fail)
                go_wp2_with fail
                have HW : Hid (∀ m, ChAt w ((w3.drewN m).setCell ⟨P, 2, none⟩ (.bool true)) P p.s { q.c2 with more := true } rr) := fun m => (HQ2.out.same ((Upd.refl _ _).drewN m)).pn hP (PenX.setMore ⟨(HQ2.out.same ((Upd.refl _ _).drewN m)).pen, Upd.refl _ _⟩) hqs2 hqi2
                refine (show ∀ W, ChAt w W P p.s { q.c2 with more := true } rr → Code.wp _ _ _ _ W from ?_) _ (HW.out _)
                intro W hA
                have HA := hid hA
                clear hA HW p0 p1 p2 c5 g5 f1 f2 HQ2
                have p0 : W.cell? ⟨P, 0, none⟩ = some (.string q.c2.s) := cell_of_heap HA.out.pen 0
                have p1 : W.cell? ⟨P, 1, none⟩ = some (.int .i64 q.c2.i) := cell_of_heap HA.out.pen 1
                have f1 : W.frozen? ⟨P, 1, none⟩ = false := unfrozen_of_heap HA.out.pen 1
                have c5 : W.cell? ⟨w.heap.size, 5, none⟩ = some (.string ⟨rr.text.toArray⟩) := cell_of_heap HA.out.rq 5
                have g5 : W.frozen? ⟨w.heap.size, 5, none⟩ = false := unfrozen_of_heap HA.out.rq 5
                rw [hqs2] at p0
                have hRP : w.heap.size ≠ P := by omega
                have hPR : P ≠ w.heap.size := by omega
                go_region
                all_goals go_wp2_with fail
                all_goals
                  refine (show ∀ X, ChAt w X P p.s { q.c2 with i := q.c2.i + (p.s.size - q.c2.i), more := true } { rr with text := rr.text ++ (p.s.data.toList.drop q.c2.i).take (p.s.size - q.c2.i) } → Calls _ _ _ X _ from ?_) _ (HA.out.step hP (p.s.size - q.c2.i) (by show q.c2.i + _ ≤ _; omega) _ (by show _ = ((q.c2.i + _ : Nat) : Int); omega) _ HBx.out)
                  intro X hX
                  have HK : ∃ q3 rr3, Hid (ChAt w X P p.s q3 rr3) ∧ Hid (chunksP (p.s.size + 1) p r = tailP g n q3 rr3) ∧ Hid ((q3.exact [13, 10]).on = true → q.i < (q3.exact [13, 10]).i) ∧ rr3.text.length ≤ 100 := ⟨_, _, hid hX, HT3, HPr3, hrl3⟩
                  clear hX HA p0 p1 f1 c5 g5 HT3 HPr3 hrl3
                  obtain ⟨q3, rr3, HQ3, HT, HPr, hrl3⟩ := HK
                  refine (exact_any (hid HQ3.out.pen) (by rw [HQ3.out.eqs]; exact HQ3.out.le) (by rw [HQ3.out.eqs]; omega) [13, 10] (by decide)).mono ?_
                  rintro e w4 ⟨rfl, hq4⟩
                  have HQ4 : Hid (ChAt w w4 P p.s (q3.exact [13, 10]) rr3) := by
                    have hes := exact_s [13, 10] q3
                    exact HQ3.out.pn hP hq4 (hes.1.trans HQ3.out.eqs) (by have := hes.2 (by rw [HQ3.out.eqs]; exact HQ3.out.le); rw [HQ3.out.eqs] at this; exact this)
                  clear hq4 HQ3
                  unfold tailP at HT
                  generalize q3.exact [13, 10] = q4 at *
                  have d2 : w4.cell? ⟨P, 2, none⟩ = some (.bool q4.more) := cell_of_heap HQ4.out.pen 2
                  have d3 : w4.cell? ⟨P, 3, none⟩ = some (.bool q4.bad) := cell_of_heap HQ4.out.pen 3
                  have hlt4 := lt_of_heap HQ4.out.res
                  cases hbad : q4.bad
                  · rw [hbad] at d3 HT
                    have hrq := HQ4.out.rq
                    unfold rqCells at hrq
                    obtain ⟨⟨x0, x1, x2, x3, x4, x5⟩, v0, v1, v2, v3, v4, v5⟩ := cells6 hrq
                    obtain ⟨⟨z0, z1, z2, z3, z4, z5⟩, y0, y1, y2, y3, y4, y5⟩ := cells6 HQ4.out.res
                    clear hrq
                    cases hmore : q4.more
                    · rw [hmore] at d2 HT
                      by_cases hn0 : n = 0
                      · exfalso; omega
                      · have HT2 : Hid (chunksP (p.s.size + 1) p r = chunksP g q4 rr3) := by have := HT.out; rw [if_neg hn0] at this; exact this
                        have hon4 : q4.on = true := by unfold Pn.on; rw [hbad, hmore]; rfl
                        have hpr := HPr.out hon4
                        have hle4 := HQ4.out.le
                        have hne : ((n : Int) == 0) = false := by rw [beq_eq_false_iff_ne]; omega
                        clear HT HPr hon4
                        first
                          | (exfalso; omega)
                          | (go_wp2_with fail
                             go_roundg g
                             case measure => omega
                             case rel => exact ⟨q4, rr3, HQ4, by omega, hrl3, HT2.out.symm⟩)
                    · rw [hmore] at d2 HT
                      have HT2 : Hid (chunksP (p.s.size + 1) p r = { rr3 with kind := 1 }) := HT.out
                      clear HT HPr
                      go_wp2
                      exact bodyPost_ret (v := rqV { rr3 with kind := 1 }) (by simp [results, Tryz.results66, go_sem, z0, z1, z2, z3, z4, z5, rqV]) rfl ⟨by rw [HT2.out], (HQ4.out.upd.setCell (p := ⟨w.heap.size, 0, none⟩) (fun h => absurd h (Nat.lt_irrefl _)) _).six _ (by omega) _ _ _ _ _ _⟩
                  · rw [hbad] at d3 HT
                    have HT2 : Hid (chunksP (p.s.size + 1) p r = wrongR 400) := HT.out
                    clear HT HPr
                    go_wp2_with fail
                    refine (wrong_any 400 _).mono ?_
                    rintro e w5 ⟨rfl, hu5⟩
                    have HQ5 := hid (HQ4.out.same hu5)
                    obtain ⟨⟨z0, z1, z2, z3, z4, z5⟩, y0, y1, y2, y3, y4, y5⟩ := cells6 HQ5.out.res
                    clear hu5 HQ4
                    unfold rqV wrongR
                    go_wp2
                    exact bodyPost_ret (v := rqV (wrongR 400)) (by simp [results, Tryz.results66, go_sem, z0, z1, z2, z3, z4, z5, rqV, wrongR]) rfl ⟨by rw [HT2.out], HQ5.out.upd.six _ (by omega) _ _ _ _ _ _⟩
              · have hsh1 : ¬ (p.s.size : Int) - (q.c2.i : Int) < (n : Int) := by omega
                have hsh2 : decide ((p.s.size : Int) - (q.c2.i : Int) < (n : Int)) = false := decide_eq_false hsh1
                have e : q.c2.c3 n = { q.c2 with i := q.c2.i + n } := by unfold Pn.c3; rw [if_pos ⟨hon, by omega⟩, if_neg (by rw [hqs2]; exact hsh)]
                have e2 : q.c2.ct n = (p.s.data.toList.drop q.c2.i).take n := by unfold Pn.ct; rw [if_pos ⟨hon, by omega⟩, hqs2]
                have HPr3 : Hid ((({ q.c2 with i := q.c2.i + n } : Pn).exact [13, 10]).on = true → q.i < (({ q.c2 with i := q.c2.i + n } : Pn).exact [13, 10]).i) := by
                  have := HProg.out
                  rw [e] at this
                  exact this
                have HT3 : Hid (chunksP (p.s.size + 1) p r = tailP g n { q.c2 with i := q.c2.i + n } { rr with text := rr.text ++ (p.s.data.toList.drop q.c2.i).take n }) := by
                  have := HT2.out
                  rw [e, e2] at this
                  exact this
                have hrl3 : (rr.text ++ (p.s.data.toList.drop q.c2.i).take n).length ≤ 100 := by
                  rw [List.length_append, List.length_take]
                  omega
                clear e e2 HT2 HProg
                go_wp2_with fail
                refine HOn.out.mono ?_
                rintro e w3 ⟨rfl, rfl⟩
                clear HOn
                go_wp2_with fail
                go_quiet (fail)
                go_wp2_with fail
                have HW : Hid (∀ m, ChAt w (w3.drewN m) P p.s q.c2 rr) := fun m => HQ2.out.same ((Upd.refl _ _).drewN m)
                refine (show ∀ W, ChAt w W P p.s q.c2 rr → Code.wp _ _ _ _ W from ?_) _ (HW.out _)
                intro W hA
                have HA := hid hA
                clear hA HW p0 p1 p2 c5 g5 f1 f2 HQ2
                have p0 : W.cell? ⟨P, 0, none⟩ = some (.string q.c2.s) := cell_of_heap HA.out.pen 0
                have p1 : W.cell? ⟨P, 1, none⟩ = some (.int .i64 q.c2.i) := cell_of_heap HA.out.pen 1
                have f1 : W.frozen? ⟨P, 1, none⟩ = false := unfrozen_of_heap HA.out.pen 1
                have c5 : W.cell? ⟨w.heap.size, 5, none⟩ = some (.string ⟨rr.text.toArray⟩) := cell_of_heap HA.out.rq 5
                have g5 : W.frozen? ⟨w.heap.size, 5, none⟩ = false := unfrozen_of_heap HA.out.rq 5
                rw [hqs2] at p0
                have hRP : w.heap.size ≠ P := by omega
                have hPR : P ≠ w.heap.size := by omega
                go_region
                all_goals go_wp2_with fail
                all_goals
                  refine (show ∀ X, ChAt w X P p.s { q.c2 with i := q.c2.i + n } { rr with text := rr.text ++ (p.s.data.toList.drop q.c2.i).take (n) } → Calls _ _ _ X _ from ?_) _ (HA.out.step hP (n) (by show q.c2.i + _ ≤ _; omega) _ (by show _ = ((q.c2.i + _ : Nat) : Int); omega) _ (ba_ext rr.text p.s q.c2.i n))
                  intro X hX
                  have HK : ∃ q3 rr3, Hid (ChAt w X P p.s q3 rr3) ∧ Hid (chunksP (p.s.size + 1) p r = tailP g n q3 rr3) ∧ Hid ((q3.exact [13, 10]).on = true → q.i < (q3.exact [13, 10]).i) ∧ rr3.text.length ≤ 100 := ⟨_, _, hid hX, HT3, HPr3, hrl3⟩
                  clear hX HA p0 p1 f1 c5 g5 HT3 HPr3 hrl3
                  obtain ⟨q3, rr3, HQ3, HT, HPr, hrl3⟩ := HK
                  refine (exact_any (hid HQ3.out.pen) (by rw [HQ3.out.eqs]; exact HQ3.out.le) (by rw [HQ3.out.eqs]; omega) [13, 10] (by decide)).mono ?_
                  rintro e w4 ⟨rfl, hq4⟩
                  have HQ4 : Hid (ChAt w w4 P p.s (q3.exact [13, 10]) rr3) := by
                    have hes := exact_s [13, 10] q3
                    exact HQ3.out.pn hP hq4 (hes.1.trans HQ3.out.eqs) (by have := hes.2 (by rw [HQ3.out.eqs]; exact HQ3.out.le); rw [HQ3.out.eqs] at this; exact this)
                  clear hq4 HQ3
                  unfold tailP at HT
                  generalize q3.exact [13, 10] = q4 at *
                  have d2 : w4.cell? ⟨P, 2, none⟩ = some (.bool q4.more) := cell_of_heap HQ4.out.pen 2
                  have d3 : w4.cell? ⟨P, 3, none⟩ = some (.bool q4.bad) := cell_of_heap HQ4.out.pen 3
                  have hlt4 := lt_of_heap HQ4.out.res
                  cases hbad : q4.bad
                  · rw [hbad] at d3 HT
                    have hrq := HQ4.out.rq
                    unfold rqCells at hrq
                    obtain ⟨⟨x0, x1, x2, x3, x4, x5⟩, v0, v1, v2, v3, v4, v5⟩ := cells6 hrq
                    obtain ⟨⟨z0, z1, z2, z3, z4, z5⟩, y0, y1, y2, y3, y4, y5⟩ := cells6 HQ4.out.res
                    clear hrq
                    cases hmore : q4.more
                    · rw [hmore] at d2 HT
                      by_cases hn0 : n = 0
                      · exfalso; omega
                      · have HT2 : Hid (chunksP (p.s.size + 1) p r = chunksP g q4 rr3) := by have := HT.out; rw [if_neg hn0] at this; exact this
                        have hon4 : q4.on = true := by unfold Pn.on; rw [hbad, hmore]; rfl
                        have hpr := HPr.out hon4
                        have hle4 := HQ4.out.le
                        have hne : ((n : Int) == 0) = false := by rw [beq_eq_false_iff_ne]; omega
                        clear HT HPr hon4
                        first
                          | (exfalso; omega)
                          | (go_wp2_with fail
                             go_roundg g
                             case measure => omega
                             case rel => exact ⟨q4, rr3, HQ4, by omega, hrl3, HT2.out.symm⟩)
                    · rw [hmore] at d2 HT
                      have HT2 : Hid (chunksP (p.s.size + 1) p r = { rr3 with kind := 1 }) := HT.out
                      clear HT HPr
                      go_wp2
                      exact bodyPost_ret (v := rqV { rr3 with kind := 1 }) (by simp [results, Tryz.results66, go_sem, z0, z1, z2, z3, z4, z5, rqV]) rfl ⟨by rw [HT2.out], (HQ4.out.upd.setCell (p := ⟨w.heap.size, 0, none⟩) (fun h => absurd h (Nat.lt_irrefl _)) _).six _ (by omega) _ _ _ _ _ _⟩
                  · rw [hbad] at d3 HT
                    have HT2 : Hid (chunksP (p.s.size + 1) p r = wrongR 400) := HT.out
                    clear HT HPr
                    go_wp2_with fail
                    refine (wrong_any 400 _).mono ?_
                    rintro e w5 ⟨rfl, hu5⟩
                    have HQ5 := hid (HQ4.out.same hu5)
                    obtain ⟨⟨z0, z1, z2, z3, z4, z5⟩, y0, y1, y2, y3, y4, y5⟩ := cells6 HQ5.out.res
                    clear hu5 HQ4
                    unfold rqV wrongR
                    go_wp2
                    exact bodyPost_ret (v := rqV (wrongR 400)) (by simp [results, Tryz.results66, go_sem, z0, z1, z2, z3, z4, z5, rqV, wrongR]) rfl ⟨by rw [HT2.out], HQ5.out.upd.six _ (by omega) _ _ _ _ _ _⟩

end Go.Proofs.YtiiapfkcmdkkoaaGreatDoor

/-
  The document's own reader: body.
-/
namespace Go.Proofs.YtiiapfkcmdkkoaaGreatDoor
open Go.RowKit

/-- Behind the head: so many bytes are told. -/
def countP (p : Pn) (r : Rq) (n : Int) : Rq :=
  if n < 0 then wrongR 400 else if 100 < n then wrongR 413 else
  if (p.s.size : Int) - p.i < n then { r with kind := 1 } else { r with kind := 2, text := (p.s.data.toList.drop p.i).take n.toNat }
def countOf (lens : List (List UInt8)) : Int := match lens with | [x] => lenOf x | _ => 0
def bodyP (p : Pn) (r : Rq) (lens cods : List (List UInt8)) : Rq :=
  if 1 < lens.length + cods.length then wrongR 400 else
  match cods with
  | [c] => if smallL c = chunkedL then chunksP (p.s.size + 1) p r else wrongR 400
  | _ => countP p r (countOf lens)

theorem ba_ext0 (s : ByteArray) (i k : Nat) : s.extract i (i + k) = ⟨((s.data.toList.drop i).take k).toArray⟩ := by
  apply ByteArray.ext
  apply Array.ext'
  simp only [ByteArray.data_extract, Array.toList_extract, List.extract_eq_take_drop, Nat.add_sub_cancel_left]
/-- What body finds when it begins. -/
theorem ChAt.begin {w : World} {P : Nat} {p : Pn} {r : Rq} (h : PenAt w P p) (hi : p.i ≤ p.s.size) : ChAt w ((w.alloc (.cells #[.int .i64 r.kind, .int .i64 r.status, .string ⟨r.method.toArray⟩, .string ⟨r.target.toArray⟩, .bool r.close, .string ⟨r.text.toArray⟩] 47)).alloc zero6) P p.s p r := by
  have hP := lt_of_heap h
  have U : Upd (fun _ => False) w ((w.alloc (.cells #[.int .i64 r.kind, .int .i64 r.status, .string ⟨r.method.toArray⟩, .string ⟨r.target.toArray⟩, .bool r.close, .string ⟨r.text.toArray⟩] 47)).alloc zero6) := ((Upd.refl _ w).alloc _).alloc _
  refine ⟨U.keep h (fun h => h), U.mono (fun _ _ h => h.elim), ?_, ?_, rfl, hi⟩
  · simp only [hpush, Array.getElem?_push, Array.size_push]
    repeat (first | rw [if_pos trivial] | rw [if_pos (by omega)] | rw [if_neg (by omega)])
    rfl
  · simp only [hpush, Array.getElem?_push, Array.size_push]
    repeat (first | rw [if_pos trivial] | rw [if_pos (by omega)] | rw [if_neg (by omega)])

set_option maxHeartbeats 3200000 in
set_option maxRecDepth 100000 in
theorem body_any {w : World} {P B : Nat} {p : Pn} (h : Hid (PenAt w P p)) (hi : p.i ≤ p.s.size) (hs : p.s.size ≤ 2000000) (r : Rq) (hr : r.text.length ≤ 100) {lv cv : Value} {lens cods : List (List UInt8)} (hl : Hid (SRow B w lv lens)) (hc : Hid (SRow B w cv cods)) (hb : Hid (∀ x ∈ lens ++ cods, x.length ≤ 100000000)) (hn : lens.length ≤ 100000000 ∧ cods.length ≤ 100000000) :
    Calls Tryz.prog 47 #[.pointer (some ⟨P, 0, none⟩), rqV r, lv, cv] w fun e w' => e = .returned (rqV (bodyP p r lens cods)) ∧ Upd (fun k => k = P) w w' := by
  have hP := lt_of_heap h.out
  have H0 := hid (ChAt.begin (r := r) h.out hi)
  have U0 : Upd (fun _ => False) w ((w.alloc (.cells #[.int .i64 r.kind, .int .i64 r.status, .string ⟨r.method.toArray⟩, .string ⟨r.target.toArray⟩, .bool r.close, .string ⟨r.text.toArray⟩] 47)).alloc zero6) := ((Upd.refl _ w).alloc _).alloc _
  have HL := hid (hl.out.keep U0 (fun _ _ h => h))
  have HC := hid (hc.out.keep U0 (fun _ _ h => h))
  clear U0
  have erq : rqV r = .agg #[.int .i64 r.kind, .int .i64 r.status, .string ⟨r.method.toArray⟩, .string ⟨r.target.toArray⟩, .bool r.close, .string ⟨r.text.toArray⟩] := rfl
  rw [erq]
  clear erq h hl hc
  obtain ⟨la, lcp, rfl, hlcp⟩ := HL.out.slice
  obtain ⟨ca, ccp, rfl, hccp⟩ := HC.out.slice
  by_cases hbig : 1 < lens.length + cods.length
  · have HE : Hid (bodyP p r lens cods = wrongR 400) := by show _ = _; unfold bodyP; rw [if_pos hbig]
    have hb1 : (1 : Int) < (lens.length : Int) + (cods.length : Int) := by omega
    clear HL HC
    go_enter Tryz.func47, Tryz.ntmps47
    go_wp2_with fail
    refine (wrong_any 400 _).mono ?_
    rintro e w5 ⟨rfl, hu5⟩
    have HQ5 := hid (H0.out.same hu5)
    obtain ⟨⟨z0, z1, z2, z3, z4, z5⟩, y0, y1, y2, y3, y4, y5⟩ := cells6 HQ5.out.res
    clear hu5 H0
    unfold rqV wrongR
    go_wp2
    exact bodyPost_ret (v := rqV (wrongR 400)) (by simp [results, Tryz.results47, go_sem, z0, z1, z2, z3, z4, z5, rqV, wrongR]) rfl ⟨by rw [HE.out], HQ5.out.upd.six _ (by omega) _ _ _ _ _ _⟩
  have hb1 : ¬ (1 : Int) < (lens.length : Int) + (cods.length : Int) := by omega
  by_cases hcod : cods.length = 1
  · obtain ⟨c, rfl⟩ := List.length_eq_one_iff.1 hcod
    obtain rfl : lens = [] := List.eq_nil_of_length_eq_zero (by simp at hbig; omega)
    obtain ⟨g, rfl, hg⟩ := HC.out.get 0 (by simp)
    have hcl : c.length ≤ 100000000 := hb.out c (by simp)
    unfold strV at hg
    simp only [List.getElem_cons_zero] at hg
    clear hb1 hbig hcod HL HC hb
    simp only [List.length_nil, List.length_cons, Nat.zero_add] at hn hlcp hccp ⊢
    by_cases hch : smallL c = chunkedL
    · have HE : Hid (bodyP p r [] [c] = chunksP (p.s.size + 1) p r) := by show _ = _; simp only [bodyP]; rw [if_neg (by simp), if_pos hch]
      have he1 : (smallL c == [99, 104, 117, 110, 107, 101, 100]) = true := by rw [hch]; rfl
      go_enter Tryz.func47, Tryz.ntmps47
      go_wp2_with fail
      refine (small_any ⟨c.toArray⟩ _ (by show c.toArray.size ≤ _; simpa using hcl)).mono ?_
      rintro e w2 ⟨rfl, hu2⟩
      have HQ2 := hid (H0.out.same hu2)
      clear hu2 H0
      have HM : Hid (smallL (⟨c.toArray⟩ : ByteArray).data.toList = smallL c) := by show _ = _; rfl
      rw [HM.out]
      have hrq := HQ2.out.rq
      unfold rqCells at hrq
      obtain ⟨⟨x0, x1, x2, x3, x4, x5⟩, v0, v1, v2, v3, v4, v5⟩ := cells6 hrq
      clear hrq
      go_wp2_with fail
      refine (chunks_any (hid HQ2.out.pen) hi hs r hr).mono ?_
      rintro e w5 ⟨rfl, hu5⟩
      have hres := hu5.keep HQ2.out.res (by omega)
      have HU := hid (HQ2.out.upd.trans hu5)
      obtain ⟨⟨z0, z1, z2, z3, z4, z5⟩, y0, y1, y2, y3, y4, y5⟩ := cells6 hres
      clear hu5 HQ2 hres x0 x1 x2 x3 x4 x5 v0 v1 v2 v3 v4 v5
      generalize chunksP (p.s.size + 1) p r = rr at *
      unfold rqV
      go_wp2
      exact bodyPost_ret (v := rqV rr) (by simp [results, Tryz.results47, go_sem, z0, z1, z2, z3, z4, z5, rqV]) rfl ⟨by rw [HE.out], HU.out.six _ (by omega) _ _ _ _ _ _⟩
    · have HE : Hid (bodyP p r [] [c] = wrongR 400) := by show _ = _; simp only [bodyP]; rw [if_neg (by simp), if_neg hch]
      have he1 : (smallL c == [99, 104, 117, 110, 107, 101, 100]) = false := beq_eq_false_iff_ne.2 hch
      go_enter Tryz.func47, Tryz.ntmps47
      go_wp2_with fail
      refine (small_any ⟨c.toArray⟩ _ (by show c.toArray.size ≤ _; simpa using hcl)).mono ?_
      rintro e w2 ⟨rfl, hu2⟩
      have HQ2 := hid (H0.out.same hu2)
      clear hu2 H0
      have HM : Hid (smallL (⟨c.toArray⟩ : ByteArray).data.toList = smallL c) := by show _ = _; rfl
      rw [HM.out]
      go_wp2_with fail
      refine (wrong_any 400 _).mono ?_
      rintro e w5 ⟨rfl, hu5⟩
      have HQ5 := hid (HQ2.out.same hu5)
      obtain ⟨⟨z0, z1, z2, z3, z4, z5⟩, y0, y1, y2, y3, y4, y5⟩ := cells6 HQ5.out.res
      clear hu5 HQ2
      unfold rqV wrongR
      go_wp2
      exact bodyPost_ret (v := rqV (wrongR 400)) (by simp [results, Tryz.results47, go_sem, z0, z1, z2, z3, z4, z5, rqV, wrongR]) rfl ⟨by rw [HE.out], HQ5.out.upd.six _ (by omega) _ _ _ _ _ _⟩
  obtain rfl : cods = [] := List.eq_nil_of_length_eq_zero (by omega)
  clear HC hcod hb1 hccp
  have HBo : Hid (bodyP p r lens [] = countP p r (countOf lens)) := by show _ = _; simp only [bodyP]; rw [if_neg hbig]
  have p0 := cell_of_heap H0.out.pen 0
  have p1 := cell_of_heap H0.out.pen 1
  simp only [List.getElem?_toArray, List.getElem?_cons_zero, List.getElem?_cons_succ] at p0 p1
  have hrq := H0.out.rq
  unfold rqCells at hrq
  obtain ⟨⟨x0, x1, x2, x3, x4, x5⟩, v0, v1, v2, v3, v4, v5⟩ := cells6 hrq
  obtain ⟨⟨z0, z1, z2, z3, z4, z5⟩, y0, y1, y2, y3, y4, y5⟩ := cells6 H0.out.res
  clear hrq
  by_cases hlen : lens.length = 1
  · obtain ⟨x, rfl⟩ := List.length_eq_one_iff.1 hlen
    obtain ⟨g, rfl, hg⟩ := HL.out.get 0 (by simp)
    have hxl : x.length ≤ 100000000 := hb.out x (by simp)
    unfold strV at hg
    simp only [List.getElem_cons_zero] at hg
    clear hlen HL hb hbig
    have HCo : Hid (countOf [x] = lenOf x) := by show _ = _; rfl
    rw [HCo.out] at HBo
    clear HCo
    simp only [List.length_nil, List.length_cons, Nat.zero_add] at hn hlcp ⊢
    generalize hNN : lenOf x = N at *
    have HNN := hid hNN
    clear hNN
    by_cases hneg : N < 0
    · have HE : Hid (bodyP p r [x] [] = wrongR 400) := by show _ = _; rw [HBo.out]; unfold countP; rw [if_pos hneg]
      clear HBo
      go_enter Tryz.func47, Tryz.ntmps47
      go_wp2_with fail
      refine (length_any ⟨x.toArray⟩ _ (by show x.toArray.size ≤ _; simpa using hxl)).mono ?_
      rintro e w2 ⟨rfl, rfl⟩
      have HM : Hid (lenOf (⟨x.toArray⟩ : ByteArray).data.toList = N) := by show _ = _; exact HNN.out
      rw [HM.out]
      clear HM HNN
      go_wp2_with fail
      refine (wrong_any 400 _).mono ?_
      rintro e w5 ⟨rfl, hu5⟩
      have HQ5 := hid (H0.out.same hu5)
      clear z0 z1 z2 z3 z4 z5 y0 y1 y2 y3 y4 y5
      obtain ⟨⟨z0, z1, z2, z3, z4, z5⟩, y0, y1, y2, y3, y4, y5⟩ := cells6 HQ5.out.res
      clear hu5 H0
      unfold rqV wrongR
      go_wp2
      exact bodyPost_ret (v := rqV (wrongR 400)) (by simp [results, Tryz.results47, go_sem, z0, z1, z2, z3, z4, z5, rqV, wrongR]) rfl ⟨by rw [HE.out], HQ5.out.upd.six _ (by omega) _ _ _ _ _ _⟩
    by_cases hbig : 100 < N
    · have HE : Hid (bodyP p r [x] [] = wrongR 413) := by show _ = _; rw [HBo.out]; unfold countP; rw [if_neg hneg, if_pos hbig]
      clear HBo
      go_enter Tryz.func47, Tryz.ntmps47
      go_wp2_with fail
      refine (length_any ⟨x.toArray⟩ _ (by show x.toArray.size ≤ _; simpa using hxl)).mono ?_
      rintro e w2 ⟨rfl, rfl⟩
      have HM : Hid (lenOf (⟨x.toArray⟩ : ByteArray).data.toList = N) := by show _ = _; exact HNN.out
      rw [HM.out]
      clear HM HNN
      go_wp2_with fail
      refine (wrong_any 413 _).mono ?_
      rintro e w5 ⟨rfl, hu5⟩
      have HQ5 := hid (H0.out.same hu5)
      clear z0 z1 z2 z3 z4 z5 y0 y1 y2 y3 y4 y5
      obtain ⟨⟨z0, z1, z2, z3, z4, z5⟩, y0, y1, y2, y3, y4, y5⟩ := cells6 HQ5.out.res
      clear hu5 H0
      unfold rqV wrongR
      go_wp2
      exact bodyPost_ret (v := rqV (wrongR 413)) (by simp [results, Tryz.results47, go_sem, z0, z1, z2, z3, z4, z5, rqV, wrongR]) rfl ⟨by rw [HE.out], HQ5.out.upd.six _ (by omega) _ _ _ _ _ _⟩
    obtain ⟨n, rfl⟩ : ∃ n : Nat, N = n := ⟨N.toNat, by omega⟩
    by_cases hsh : (p.s.size : Int) - p.i < n
    · have HE : Hid (bodyP p r [x] [] = { r with kind := 1 }) := by show _ = _; rw [HBo.out]; unfold countP; rw [if_neg hneg, if_neg hbig, if_pos hsh]
      clear HBo
      go_enter Tryz.func47, Tryz.ntmps47
      go_wp2_with fail
      refine (length_any ⟨x.toArray⟩ _ (by show x.toArray.size ≤ _; simpa using hxl)).mono ?_
      rintro e w2 ⟨rfl, rfl⟩
      have HM : Hid (lenOf (⟨x.toArray⟩ : ByteArray).data.toList = (n : Int)) := by show _ = _; exact HNN.out
      rw [HM.out]
      clear HM HNN
      go_wp2_with fail
      refine (show ∀ W, ChAt w W P p.s p r → Code.wp _ _ _ _ W from ?_) _ H0.out
      intro W hA
      have HA := hid hA
      clear hA H0 p0 p1 x0 x1 x2 x3 x4 x5 v0 v1 v2 v3 v4 v5 z0 z1 z2 z3 z4 z5 y0 y1 y2 y3 y4 y5
      have p0 : W.cell? ⟨P, 0, none⟩ = some (.string p.s) := cell_of_heap HA.out.pen 0
      have p1 : W.cell? ⟨P, 1, none⟩ = some (.int .i64 p.i) := cell_of_heap HA.out.pen 1
      have hrq := HA.out.rq
      unfold rqCells at hrq
      obtain ⟨⟨x0, x1, x2, x3, x4, x5⟩, v0, v1, v2, v3, v4, v5⟩ := cells6 hrq
      obtain ⟨⟨z0, z1, z2, z3, z4, z5⟩, y0, y1, y2, y3, y4, y5⟩ := cells6 HA.out.res
      clear hrq
      have hlt4 := lt_of_heap HA.out.res
      have hpi : (p.i : Int) ≤ (p.s.size : Int) := by omega
      go_quiet (fail)
      go_wp2
      exact bodyPost_ret (v := rqV { r with kind := 1 }) (by simp [results, Tryz.results47, go_sem, z0, z1, z2, z3, z4, z5, rqV]) rfl ⟨by rw [HE.out], ((HA.out.same ((Upd.refl _ _).drewN _)).upd.setCell (p := ⟨w.heap.size, 0, none⟩) (fun h => absurd h (Nat.lt_irrefl _)) _).six _ (by omega) _ _ _ _ _ _⟩
    · have HE : Hid (bodyP p r [x] [] = { r with kind := 2, text := (p.s.data.toList.drop p.i).take n }) := by show _ = _; rw [HBo.out]; unfold countP; rw [if_neg hneg, if_neg hbig, if_neg hsh, Int.toNat_natCast]
      clear HBo
      go_enter Tryz.func47, Tryz.ntmps47
      go_wp2_with fail
      refine (length_any ⟨x.toArray⟩ _ (by show x.toArray.size ≤ _; simpa using hxl)).mono ?_
      rintro e w2 ⟨rfl, rfl⟩
      have HM : Hid (lenOf (⟨x.toArray⟩ : ByteArray).data.toList = (n : Int)) := by show _ = _; exact HNN.out
      rw [HM.out]
      clear HM HNN
      have HX := hid (ba_ext0 p.s p.i n)
      go_wp2_with fail
      refine (show ∀ W, ChAt w W P p.s p r → Code.wp _ _ _ _ W from ?_) _ H0.out
      intro W hA
      have HA := hid hA
      clear hA H0 p0 p1 x0 x1 x2 x3 x4 x5 v0 v1 v2 v3 v4 v5 z0 z1 z2 z3 z4 z5 y0 y1 y2 y3 y4 y5
      have p0 : W.cell? ⟨P, 0, none⟩ = some (.string p.s) := cell_of_heap HA.out.pen 0
      have p1 : W.cell? ⟨P, 1, none⟩ = some (.int .i64 p.i) := cell_of_heap HA.out.pen 1
      have hrq := HA.out.rq
      unfold rqCells at hrq
      obtain ⟨⟨x0, x1, x2, x3, x4, x5⟩, v0, v1, v2, v3, v4, v5⟩ := cells6 hrq
      obtain ⟨⟨z0, z1, z2, z3, z4, z5⟩, y0, y1, y2, y3, y4, y5⟩ := cells6 HA.out.res
      clear hrq
      have hlt4 := lt_of_heap HA.out.res
      have hpi : (p.i : Int) ≤ (p.s.size : Int) := by omega
      have hd : decide ((p.s.size : Int) - (p.i : Int) < (n : Int)) = false := decide_eq_false (by omega)
      go_quiet (fail)
      go_wp2_with fail
      refine (show ∀ V, ChAt w V P p.s p { r with kind := 2 } → Code.wp _ _ _ _ V from ?_) _ ((HA.out.same ((Upd.refl _ _).drewN _)).set hP 0 (.int .i64 2) rfl)
      intro V hB
      have HB := hid hB
      clear hB HA p0 p1 x0 x1 x2 x3 x4 x5 v0 v1 v2 v3 v4 v5 z0 z1 z2 z3 z4 z5 y0 y1 y2 y3 y4 y5 hlt4
      have p0 : V.cell? ⟨P, 0, none⟩ = some (.string p.s) := cell_of_heap HB.out.pen 0
      have p1 : V.cell? ⟨P, 1, none⟩ = some (.int .i64 p.i) := cell_of_heap HB.out.pen 1
      have hrq := HB.out.rq
      unfold rqCells at hrq
      obtain ⟨⟨x0, x1, x2, x3, x4, x5⟩, v0, v1, v2, v3, v4, v5⟩ := cells6 hrq
      obtain ⟨⟨z0, z1, z2, z3, z4, z5⟩, y0, y1, y2, y3, y4, y5⟩ := cells6 HB.out.res
      clear hrq
      have hlt4 := lt_of_heap HB.out.res
      go_region
      all_goals go_wp2
      all_goals exact bodyPost_ret (v := rqV { r with kind := 2, text := (p.s.data.toList.drop p.i).take n }) (by simp [results, Tryz.results47, go_sem, z0, z1, z2, z3, z4, z5, rqV, HX.out]) rfl ⟨by rw [HE.out], ((HB.out.upd.setCell (p := ⟨w.heap.size, 5, none⟩) (fun h => absurd h (Nat.lt_irrefl _)) _).six _ (by omega) _ _ _ _ _ _).drew⟩
  · obtain rfl : lens = [] := List.eq_nil_of_length_eq_zero (by simp only [List.length_nil] at hbig; omega)
    have HE : Hid (bodyP p r [] [] = { r with kind := 2, text := (p.s.data.toList.drop p.i).take 0 }) := by
      show _ = _
      rw [HBo.out]
      have e0 : countOf [] = 0 := rfl
      rw [e0]
      unfold countP
      rw [if_neg (by decide), if_neg (by decide), if_neg (by omega)]
      rfl
    clear HBo HL hb hbig hlen
    simp only [List.length_nil] at hn hlcp ⊢
    go_enter Tryz.func47, Tryz.ntmps47
    go_wp2_with fail
    refine (show ∀ W, ChAt w W P p.s p r → Code.wp _ _ _ _ W from ?_) _ H0.out
    intro W hA
    have HA := hid hA
    clear hA H0 p0 p1 x0 x1 x2 x3 x4 x5 v0 v1 v2 v3 v4 v5 z0 z1 z2 z3 z4 z5 y0 y1 y2 y3 y4 y5
    have p0 : W.cell? ⟨P, 0, none⟩ = some (.string p.s) := cell_of_heap HA.out.pen 0
    have p1 : W.cell? ⟨P, 1, none⟩ = some (.int .i64 p.i) := cell_of_heap HA.out.pen 1
    have hrq := HA.out.rq
    unfold rqCells at hrq
    obtain ⟨⟨x0, x1, x2, x3, x4, x5⟩, v0, v1, v2, v3, v4, v5⟩ := cells6 hrq
    obtain ⟨⟨z0, z1, z2, z3, z4, z5⟩, y0, y1, y2, y3, y4, y5⟩ := cells6 HA.out.res
    clear hrq
    have hlt4 := lt_of_heap HA.out.res
    have hpi : (p.i : Int) ≤ (p.s.size : Int) := by omega
    have hd : decide ((p.s.size : Int) - (p.i : Int) < (0 : Int)) = false := decide_eq_false (by omega)
    go_quiet (fail)
    go_wp2_with fail
    refine (show ∀ V, ChAt w V P p.s p { r with kind := 2 } → Code.wp _ _ _ _ V from ?_) _ ((HA.out.same ((Upd.refl _ _).drewN _)).set hP 0 (.int .i64 2) rfl)
    intro V hB
    have HB := hid hB
    clear hB HA p0 p1 x0 x1 x2 x3 x4 x5 v0 v1 v2 v3 v4 v5 z0 z1 z2 z3 z4 z5 y0 y1 y2 y3 y4 y5 hlt4
    have p0 : V.cell? ⟨P, 0, none⟩ = some (.string p.s) := cell_of_heap HB.out.pen 0
    have p1 : V.cell? ⟨P, 1, none⟩ = some (.int .i64 p.i) := cell_of_heap HB.out.pen 1
    have hrq := HB.out.rq
    unfold rqCells at hrq
    obtain ⟨⟨x0, x1, x2, x3, x4, x5⟩, v0, v1, v2, v3, v4, v5⟩ := cells6 hrq
    obtain ⟨⟨z0, z1, z2, z3, z4, z5⟩, y0, y1, y2, y3, y4, y5⟩ := cells6 HB.out.res
    clear hrq
    have hlt4 := lt_of_heap HB.out.res
    go_region
    all_goals go_wp2
    all_goals exact bodyPost_ret (v := rqV { r with kind := 2, text := (p.s.data.toList.drop p.i).take 0 }) (by simp [results, Tryz.results47, go_sem, z0, z1, z2, z3, z4, z5, rqV]; rfl) rfl ⟨by rw [HE.out], ((HB.out.upd.setCell (p := ⟨w.heap.size, 5, none⟩) (fun h => absurd h (Nat.lt_irrefl _)) _).six _ (by omega) _ _ _ _ _ _).drew⟩

end Go.Proofs.YtiiapfkcmdkkoaaGreatDoor
