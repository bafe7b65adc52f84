/-
  A stub: what XBox states stands in DoMeet and MeetOf here.
-/
import Derived.Test.YthlajgkelggnkaaMeetOf
namespace Go.Proofs.Ythlajgkelggnkaa
end Go.Proofs.Ythlajgkelggnkaa
