/- Nothing of its own: see S4. -/
import Derived.Test.YtbkbliieappkdaaDoorChS4
