/- The document's Cut of layer 13. -/
import Derived.Test.YtnkcnfkonifmhaaZCutN
import Derived.Test.YtnkcnfkonifmhaaZCutZ
namespace Go.Proofs.Ytnkcnfkonifmhaa
open Go.RowKit

theorem refCutS_any (h : Hd) (ok : HdOk h) (d : ByteArray) (mss : Int) (S M : Nat) (w : World) (hd : d.size ≤ 300)
    (hS : (mss < 1 ∧ S = 1) ∨ (1 ≤ mss ∧ mss ≤ 65000 ∧ mss = (S : Int)) ∨ (65000 < mss ∧ S = 65000)) (hM : M = max ((d.size + S - 1) / S) 1) :
    Calls Try.prog 17 #[.agg #[.int .u16 h.src, .int .u16 h.dst, .int .u32 h.seq, .int .u32 h.ack, .int .u8 h.off, .int .u8 h.ace, .int .u8 h.fl, .int .u16 h.win, .int .u16 h.sum, .int .u16 h.urg], .string d, .int .i64 mss] w (CutTo w (cutC h d S M M)) := by
  by_cases hz : (d.size + S - 1) / S = 0
  · exact refCutZ_any h ok d mss S M w hd hS hM hz
  · exact refCutN_any h ok d mss S M w hd hS hM hz
end Go.Proofs.Ytnkcnfkonifmhaa
